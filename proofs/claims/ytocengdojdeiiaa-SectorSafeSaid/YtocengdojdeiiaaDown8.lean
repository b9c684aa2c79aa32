/- The program's Flush and Boot. -/
import Derived.Test.YtocengdojdeiiaaRest8
import Derived.Test.YtocengdojdeiiaaSome8
namespace Go.Proofs.Ytocengdojdeiiaa
open Go.RowKit Go.Maps

theorem IntsNew.but {A B b g m : Nat} {w w' : World} {a : Option Addr} {xs : List Int} (h : IntsNew A B w a xs) (hB : B ≤ w.heap.size) (hb : But b g m w w') (h1 : b < A) (h2 : g < A) (h3 : m < A) : IntsNew A B w' a xs := by
  rcases h with h | ⟨x, off, ha, hx, hl, hc⟩
  · exact Or.inl h
  · exact Or.inr ⟨x, off, ha, hx, hl, fun j hj => (World.cell?_of_block (w := w) (hb.block x (by omega) (by omega) (by omega) (by omega))).trans (hc j hj)⟩
theorem IntsNew.at {A B : Nat} {w : World} {a : Option Addr} {xs : List Int} (h : IntsNew A B w a xs) {k : Nat} (hk : k < xs.length) : ∃ x off, a = some ⟨x, off, none⟩ ∧ w.cell? ⟨x, off + k, none⟩ = some (.int .i64 (numAt xs k)) := by
  rcases h with h | ⟨x, off, ha, _, _, hc⟩
  · rw [h] at hk; simp at hk
  · exact ⟨x, off, ha, hc k hk⟩
theorem looseI_at (l : List Sec) (i : Nat) (hi : i < (looseI l).length) : ∃ k : Nat, (looseN l)[i]? = some k ∧ numAt (looseI l) i = (k : Int) := by
  unfold looseI at hi ⊢
  rw [List.length_map] at hi
  exact ⟨(looseN l)[i], List.getElem?_eq_getElem hi, by unfold numAt; rw [List.getD_eq_getElem?_getD, List.getElem?_map, List.getElem?_eq_getElem hi]; rfl⟩
theorem Dv.Ok.count {d : Dv} (h : d.Ok) : d.count.Ok := by
  have h0 := h.armed0
  have h1 := h.armed1
  have h2 := h.ops0
  refine ⟨h.fit, h.calm, h.some, h.few, ?_, ?_, ?_⟩
  · unfold Dv.count; simp only; split <;> omega
  · unfold Dv.count; simp only; split <;> omega
  · unfold Dv.count; simp only; omega
theorem Dv.Ok.settled {d : Dv} (h : d.Ok) (f : Nat → Sec → ByteArray) (hf : ∀ i c, c.now.size = 64 ∧ c.safe.size = 64 → (f i c).size = 64) (i : Nat) (x y : Int) (z : Bool) (hx : 0 ≤ x) (hy0 : 0 ≤ y) (hy1 : y ≤ 9223372036854775807) : Dv.Ok ⟨settled d.cells f i, x, y, z⟩ :=
  ⟨settled_fit h.fit f hf i, settled_calm h.calm f i, by show 0 < (Go.Proofs.Ytocengdojdeiiaa.settled d.cells f i).length; rw [settled_len]; exact h.some, by show (Go.Proofs.Ytocengdojdeiiaa.settled d.cells f i).length ≤ 2000; rw [settled_len]; exact h.few, hy0, hy1, hx⟩

set_option maxHeartbeats 2000000 in
theorem pflush_any {w : World} {b g cap m : Nat} {d : Dv} (h : PDev w b g cap m d) (hd : d.Ok) (ho : d.ops < 9223372036854775807) :
    Calls Try.prog 16 #[.pointer (some ⟨b, 0, none⟩)] w fun e w' => e = .returned (.int .i64 d.flushE) ∧ PDev w' b g cap m d.flush ∧ But b g m w w' := by
  have hde := pdead_any h hd
  have H := Lib.hid h
  have HD := Lib.hid hd
  cases hdd : d.dead with
  | true =>
    have hf : d.flush = d := by unfold Dv.flush; rw [if_pos hdd]
    have he : d.flushE = 20 := by unfold Dv.flushE; rw [if_pos hdd]
    rw [hdd, if_pos rfl] at hde
    rw [hf, he]
    clear hf he h hd hdd
    go_enter Try.func16, Try.ntmps16
    go_wp2_with (go_at_call 36; refine hde.mono ?_; rintro e w1 ⟨rfl, rfl⟩)
    go_ret
    exact ⟨rfl, H.out, But.refl _ _ _ _⟩
  | false =>
    have hst := pstep_any h hd ho
    rw [hdd, if_neg (by decide)] at hde
    by_cases hh : d.hit = true
    · have hf : d.flush = d.count := by unfold Dv.flush; rw [hdd, if_neg (by decide), if_pos hh]
      have he : d.flushE = 20 := by unfold Dv.flushE; rw [hdd, if_neg (by decide), if_pos hh]
      rw [if_pos hh] at hst
      rw [hf, he]
      generalize d.count = D at *
      clear hf he h hd hdd hh
      go_enter Try.func16, Try.ntmps16
      go_wp2_with (first
        | (go_at_call 36; refine hde.mono ?_; rintro e w1 ⟨rfl, rfl⟩)
        | (go_at_call 38; refine hst.mono ?_; rintro e w2 ⟨rfl, hp, hb⟩))
      go_ret
      exact ⟨rfl, hp, hb⟩
    · have hf : d.flush = { d.count with cells := flushed d.cells } := by unfold Dv.flush; rw [hdd, if_neg (by decide), if_neg hh]
      have he : d.flushE = 0 := by unfold Dv.flushE; rw [hdd, if_neg (by decide), if_neg hh]
      rw [if_neg hh] at hst
      rw [hf, he]
      have HOK := Lib.hid hd.count
      have HCC : Hid (d.count.cells = d.cells) := Lib.hid rfl
      have HFL := Lib.hid (settled_flush hd.calm)
      obtain ⟨L, hL⟩ : ∃ L, looseI d.cells = L := ⟨_, rfl⟩
      have HL := Lib.hid hL
      have hLN : Hid (L.length = (looseN d.cells).length) := Lib.hid (by rw [← hL]; unfold looseI; rw [List.length_map])
      have hll : L.length ≤ 2000 := by have := looseI_len d.cells; have := hd.few; rw [← hL]; omega
      have HLT := Lib.hid h.lt
      clear hL
      generalize d.count = D at *
      clear hf he h hd hdd hh
      go_enter Try.func16, Try.ntmps16
      go_wp2_with (first
        | (go_at_call 36; refine hde.mono ?_; rintro e w1 ⟨rfl, rfl⟩)
        | (go_at_call 38; refine hst.mono ?_; rintro e w2 ⟨rfl, hp, hb⟩; have HP := Lib.hid hp; have HB := Lib.hid hb; clear hp hb)
        | (go_at_call 39; refine (ploose_any HP.out HOK.out).mono ?_; rw [HCC.out, HL.out]; rintro e w3 ⟨a, c, rfl, hi, hb3⟩; have HI := Lib.hid hi; have HB3 := Lib.hid hb3; clear hi hb3))
      obtain ⟨n, hn⟩ : ∃ n, L.length = n := ⟨_, rfl⟩
      have HN := Lib.hid hn
      rw [hn] at hll ⊢
      clear hn hLN
      go_loopw [20] (fun i' wr => ∃ i : Nat, i' = .int .i64 i ∧ i ≤ n ∧ Hid (PDev wr b g cap m ⟨settled d.cells (fun _ c => c.now) i, D.ops, D.armed, D.dead⟩) ∧ Hid (But b g m w wr) ∧ Hid (IntsNew w2.heap.size w3.heap.size wr a L) ∧ Hid (w3.heap.size ≤ wr.heap.size)) (fun i _ => n - (intOf i).toNat)
      case atStart =>
        refine ⟨0, rfl, by omega, Lib.hid ?_, Lib.hid (HB.out.step HB3.out), HI, Lib.hid (Nat.le_refl _)⟩
        have hp := HP.out.step HB3.out
        rw [settled_none, ← HCC.out]
        exact hp
      case round =>
        obtain ⟨i, rfl, hi, hP, hB, hI, hS⟩ := hrel
        by_cases hlt : i < n
        · have i1 : (i : Int) < (n : Int) := by omega
          obtain ⟨x, off, rfl, hc⟩ := hI.out.at (k := i) (by rw [HN.out]; exact hlt)
          obtain ⟨k, hk, hnum⟩ := looseI_at d.cells i (by rw [HL.out, HN.out]; exact hlt)
          rw [HL.out] at hnum
          rw [hnum] at hc
          obtain ⟨k1, k2, k3⟩ := looseN_get _ _ _ hk
          have hOK : Dv.Ok ⟨settled d.cells (fun _ c => c.now) i, D.ops, D.armed, D.dead⟩ := HD.out.settled _ (fun _ c h => h.1) i _ _ _ HOK.out.ops0 HOK.out.armed0 HOK.out.armed1
          have hat := settled_at d.cells (fun _ c => c.now) i k k1
          rw [if_neg (by omega)] at hat
          have hset := psettle_all hP.out hOK k (by show k < (settled d.cells (fun _ c => c.now) i).length; rw [settled_len]; exact k1) (by show ((settled d.cells (fun _ c => c.now) i).getD k sec0).loose = true; rw [hat]; exact k2) (d.cells.getD k sec0).now (by show _ = ((settled d.cells (fun _ c => c.now) i).getD k sec0).now; rw [hat])
          have hmore := settled_more d.cells (fun _ c => c.now) i k hk
          simp only at hset hmore
          rw [← hmore] at hset
          obtain ⟨SS, hSS⟩ : ∃ SS, settled d.cells (fun _ c => c.now) (i + 1) = SS := ⟨_, rfl⟩
          rw [hSS] at hset
          have HSS := Lib.hid hSS
          have hlt2 := HLT.out
          have hb2 := HB.out.size
          clear hnum k1 k2 k3 hOK hat hmore hSS hk
          go_wp2_with (go_at_call 40; refine hset.mono ?_; rintro e w4 ⟨rfl, hp4, hb4⟩; have HP4 := Lib.hid hp4; have HB4 := Lib.hid hb4; clear hp4 hb4)
          go_roundw
          case rel => exact ⟨i + 1, by go_num, by omega, by rw [HSS.out]; exact HP4, Lib.hid (hB.out.trans HB4.out), Lib.hid (hI.out.but hS.out HB4.out (by omega) (by omega) (by omega)), Lib.hid (Nat.le_trans hS.out HB4.out.size)⟩
          case measure => simp [intOf]; omega
        · obtain rfl : i = n := by omega
          have HFF : Hid (settled d.cells (fun _ c => c.now) i = flushed d.cells) := Lib.hid (by
            have := HFL.out
            rwa [show (looseN d.cells).length = i by rw [← HN.out, ← HL.out]; unfold looseI; rw [List.length_map]] at this)
          go_wp2
          go_ret
          refine ⟨rfl, ?_, hB.out⟩
          rw [← HFF.out]
          exact hP.out
end Go.Proofs.Ytocengdojdeiiaa
