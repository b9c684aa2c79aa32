/- The program's settle: what is left of a loose sector is laid down, and is safe. -/
import Derived.Test.YtcbmecpeockdeaaGreatDoorCall8
import Derived.Deep.MidRow
import Derived.Deep.WholeRow
import Derived.Shelf.Spec.SlicesInsert
import Derived.Deep.RegionLaw
namespace Go.Proofs.YtcbmecpeockdeaaGreatDoor
open Go.RowKit Go.Maps

theorem wf_key (k : Nat) (h : k ≤ 3000) : (Lit.int .i64 (k : Int)).wf = true := WalkArith.wf_i64 (by omega)
theorem key_of (k : Nat) (h : k ≤ 3000) : keyOf Tryz.prog 3 (.int .i64 (k : Int)) = some (.int .i64 k) := keyOf_int_mk Tryz.underlying3 (wf_key k h)
theorem lawK : Keyed Tryz.prog 3 := int_keyed Tryz.underlying3
theorem zeroArr (w : World) : (zeroValue 102).run Tryz.prog w = .ok (arrV zero64) w := (zero_of_info (t := 102) (v := arrV zero64) (n := 64) (by kernel_rfl)).1 w
/-- What the map says of a loose sector. -/
theorem PDev.look {w : World} {b g cap m : Nat} {d : Dv} (h : PDev w b g cap m d) (hd : d.Ok) {k : Nat} (hk : k < d.cells.length) (hl : (d.cells.getD k sec0).loose = true) :
    (Instr.lookup 71 (.map (some m)) (.int .i64 (k : Int)) false).run Tryz.prog w = .ok (arrV (d.cells.getD k sec0).safe) w := by
  obtain ⟨D, ho, hK⟩ := h.map
  obtain ⟨v, ps, hrun, hv⟩ := ho.lookup lawK Tryz.underlying71 (zeroArr w) rfl (key_of k (by have := hd.few; omega))
  rw [hrun]
  have e := hK.val k hk hl (.held (arrV zero64))
  rw [e] at hv
  unfold tokR at hv
  simp only [Option.some.injEq, Prod.mk.injEq, DataW.held.injEq] at hv
  rw [hv.1]

/-- A value of 64 cells goes whole into the block that was made last. -/
theorem stored64 (W : World) (V : Array Value) (hV : V.size = 64) (h1 : V.all (·.oneCell') = true) :
    (storeCells ⟨W.heap.size, 0, none⟩ V.toList 0).run Tryz.prog (W.alloc (.cells #[.int .u8 0, .int .u8 0, .int .u8 0, .int .u8 0, .int .u8 0, .int .u8 0, .int .u8 0, .int .u8 0, .int .u8 0, .int .u8 0, .int .u8 0, .int .u8 0, .int .u8 0, .int .u8 0, .int .u8 0, .int .u8 0, .int .u8 0, .int .u8 0, .int .u8 0, .int .u8 0, .int .u8 0, .int .u8 0, .int .u8 0, .int .u8 0, .int .u8 0, .int .u8 0, .int .u8 0, .int .u8 0, .int .u8 0, .int .u8 0, .int .u8 0, .int .u8 0, .int .u8 0, .int .u8 0, .int .u8 0, .int .u8 0, .int .u8 0, .int .u8 0, .int .u8 0, .int .u8 0, .int .u8 0, .int .u8 0, .int .u8 0, .int .u8 0, .int .u8 0, .int .u8 0, .int .u8 0, .int .u8 0, .int .u8 0, .int .u8 0, .int .u8 0, .int .u8 0, .int .u8 0, .int .u8 0, .int .u8 0, .int .u8 0, .int .u8 0, .int .u8 0, .int .u8 0, .int .u8 0, .int .u8 0, .int .u8 0, .int .u8 0, .int .u8 0] 102)) = .ok () (W.alloc (.cells V 102)) :=
  run_storeCells_new W 102 #[.int .u8 0, .int .u8 0, .int .u8 0, .int .u8 0, .int .u8 0, .int .u8 0, .int .u8 0, .int .u8 0, .int .u8 0, .int .u8 0, .int .u8 0, .int .u8 0, .int .u8 0, .int .u8 0, .int .u8 0, .int .u8 0, .int .u8 0, .int .u8 0, .int .u8 0, .int .u8 0, .int .u8 0, .int .u8 0, .int .u8 0, .int .u8 0, .int .u8 0, .int .u8 0, .int .u8 0, .int .u8 0, .int .u8 0, .int .u8 0, .int .u8 0, .int .u8 0, .int .u8 0, .int .u8 0, .int .u8 0, .int .u8 0, .int .u8 0, .int .u8 0, .int .u8 0, .int .u8 0, .int .u8 0, .int .u8 0, .int .u8 0, .int .u8 0, .int .u8 0, .int .u8 0, .int .u8 0, .int .u8 0, .int .u8 0, .int .u8 0, .int .u8 0, .int .u8 0, .int .u8 0, .int .u8 0, .int .u8 0, .int .u8 0, .int .u8 0, .int .u8 0, .int .u8 0, .int .u8 0, .int .u8 0, .int .u8 0, .int .u8 0, .int .u8 0] V (by rw [hV]; kernel_rfl) (by rw [hV]; rfl) h1
theorem bytes_all (t : ByteArray) : (⟨bytesV t⟩ : Array Value).all (·.oneCell') = true := by
  rw [Array.all_eq_true_iff_forall_mem]
  intro v hv
  exact byte_one t v (by simpa using hv)

theorem bytesV_app (s t : ByteArray) : bytesV (s ++ t) = bytesV s ++ bytesV t := by unfold bytesV; simp
theorem bytesV_cut (s : ByteArray) (a b : Nat) : bytesV (s.extract a b) = ((bytesV s).drop a).take (b - a) := by
  unfold bytesV
  rw [cut_list, List.map_take, List.map_drop]
theorem bytes_cut (s t : ByteArray) (j : Nat) (ht : t.size = 64) : bytesV (s.extract 0 j ++ t.extract j 64) = (bytesV s).take j ++ (bytesV t).drop j := by
  rw [bytesV_app, bytesV_cut, bytesV_cut, List.drop_zero, Nat.sub_zero]
  congr 1
  exact List.take_of_length_le (by rw [List.length_drop, bytesV_len, ht]; omega)
/-- 'copy' into the row of sectors, from a row of bytes. -/
theorem copy_in {W : World} {g o n : Nat} {a : Addr} {cur cs : List Value} {T : TypeId} (hg : W.heap[g]? = some (.cells cur.toArray T (0, 0))) (hn : cs.length = n) (hsrc : ∀ i v, cs[i]? = some v → W.cell? (a.add i) = some v) (hfit : o + n ≤ cur.length) (h1 : ∀ v ∈ cs, v.oneCell' = true) (ty : TypeId) :
    (Builtin.copy_ #[51, 51] ty #[.slice (some ⟨g, o, none⟩) n n, .slice (some a) n n]).run Tryz.prog W = .ok (goInt n) (W.setRow g (splice cur o cs).toArray) := by
  have h := run_copy_row (P := Tryz.prog) W 51 51 ty 5 g o n n a n n cur.toArray T cs Tryz.underlying51 (by kernel_rfl) hg (by rw [hn]; exact (Nat.min_self n).symm) hsrc (by rw [hn]; simpa using hfit) h1
  rw [h, hn]
  unfold splice
  rw [hn]
  simp

set_option maxRecDepth 100000 in
set_option maxHeartbeats 1000000 in
theorem psettle_any {w : World} {b g cap m : Nat} {d : Dv} (h : PDev w b g cap m d) (hd : d.Ok) (k j : Nat) (hk : k < d.cells.length) (hl : (d.cells.getD k sec0).loose = true) (hj : j < 64) (x : ByteArray) (hx : x = (d.cells.getD k sec0).now.extract 0 j ++ (d.cells.getD k sec0).safe.extract j 64) :
    Calls Tryz.prog 34 #[.pointer (some ⟨b, 0, none⟩), .int .i64 k, .int .i64 j] w fun e w' => e = .returned (.tuple #[]) ∧ PDev w' b g cap m ⟨d.cells.set k ⟨x, x, false⟩, d.ops, d.armed, d.dead⟩ ∧ But b g m w w' := by
  have HX := Lib.hid hx
  clear hx
  have hlk := h.look hd hk hl
  obtain ⟨V, hV, hVs, hVa⟩ : ∃ V : Array Value, arrV (d.cells.getD k sec0).safe = .agg V ∧ V.size = 64 ∧ V.all (·.oneCell') = true := ⟨_, rfl, by show (bytesV _).length = 64; rw [bytesV_len, (fit_at hd.fit hk).2], bytes_all _⟩
  rw [hV] at hlk
  have hst := stored64 w V hVs hVa
  obtain ⟨c0, c1, c2, c3, c4, f0, f1, f2, f3, f4⟩ := five_cells h.box
  have HV := Lib.hid hV
  clear hV
  go_enter Tryz.func34, Tryz.ntmps34
  have hB0 : Below w.heap.size w (w.alloc (.cells V 102)) := (Below.refl _ w).alloc (Nat.le_refl _) _
  have hN0 := heap_alloc_new w (.cells V 102)
  go_upto_region 1 with fail
  obtain ⟨W, hW⟩ : ∃ W, W = w.alloc (.cells V 102) := ⟨_, rfl⟩
  rw [← hW] at hB0 hN0 ⊢
  clear hW hst c0 c1 c2 c3 c4 f0 f1 f2 f3 f4
  have hW := h.step hB0
  obtain ⟨c0, c1, c2, c3, c4, f0, f1, f2, f3, f4⟩ := five_cells hW.box
  have i1 : (k : Int) < (d.cells.length : Int) := by omega
  have i2 : (j : Int) < 64 := by omega
  have i3 : (j : Int) ≤ 64 := by omega
  have i4 : ¬ 64 = j := by omega
  have i5 : ¬ (64 : Int) = (j : Int) := by omega
  have H := Lib.hid h
  have HW := Lib.hid hW
  have HB := Lib.hid hB0
  have HN := Lib.hid hN0
  clear h hW hB0 hN0 c1 c2 c3 c4 f1 f2 f3 f4 hlk hVa
  obtain ⟨cur, hcur, q1, q2, q3, q4⟩ := HW.out.row
  have hss := (fit_at hd.fit hk).2
  have hdl : ((bytesV (d.cells.getD k sec0).safe).drop j).length = 64 - j := by rw [List.length_drop, bytesV_len, hss]
  have hVe : V = ⟨bytesV (d.cells.getD k sec0).safe⟩ := by have := HV.out; unfold arrV at this; injection this with this; exact this.symm
  have hrun := copy_in (W := W.drew) (g := g) (o := k * 64 + j) (n := 64 - j) (a := ⟨w.heap.size, j, none⟩) (cur := cur) (cs := (bytesV (d.cells.getD k sec0).safe).drop j) hcur hdl (fun i v hv => by
      have e : (⟨w.heap.size, j, none⟩ : Addr).add i = ⟨w.heap.size, j + i, none⟩ := by unfold Addr.add; split <;> simp_all
      rw [e]
      rw [List.getElem?_drop] at hv
      exact cell_of (w := W.drew) HN.out (by rw [hVe, List.getElem?_toArray]; exact hv)) (by have := hd.few; omega) (fun v hv => byte_one _ v (List.mem_of_mem_drop hv)) 3
  obtain ⟨cs, hcs⟩ : ∃ cs, (bytesV (d.cells.getD k sec0).safe).drop j = cs := ⟨_, rfl⟩
  rw [hcs] at hrun
  have HCS := Lib.hid hcs
  have HQ := Lib.hid (And.intro hcur (And.intro q1 (And.intro q2 (And.intro q3 q4))))
  clear hcur q1 q2 q3 q4 hcs hdl hss hVe
  go_region_law (refine step_copy_runI rfl _ _ _ _ rfl _ _ rfl rfl hrun ?_)
  obtain ⟨W2, hW2⟩ : ∃ W2, W2 = W.drew.setRow g (splice cur (k * 64 + j) cs).toArray := ⟨_, rfl⟩
  rw [← hW2]
  have hne := HW.out.ne
  have hg2 : W2.heap[g]? = some (.cells (splice cur (k * 64 + j) cs).toArray 102 (0, 0)) := by rw [hW2]; exact setRow_heap W.drew g _ _ _ _ HQ.out.1
  have ho2 : ∀ i, i ≠ g → W2.heap[i]? = W.heap[i]? := fun i hi => by rw [hW2]; exact setRow_other _ _ _ _ hi
  have hB2 : But b g m w W2 := by rw [hW2]; exact (((But.refl b g m w).step HB.out).drew).row _ (Or.inr (Or.inl rfl))
  have hbox2 := (ho2 b hne.1).trans HW.out.box
  obtain ⟨D, hown, hK⟩ := HW.out.map
  have hown2 : W2.ownsMap Tryz.prog 3 tokR m (Maps.size D) D := by
    obtain ⟨es, clock, hm, r⟩ := hown
    exact ⟨es, clock, (ho2 m (fun e => hne.2.2 e.symm)).trans hm, r⟩
  obtain ⟨e0, e1, e2, e3, e4, _⟩ := five_cells hbox2
  have HG2 := Lib.hid hg2
  have HO2 := Lib.hid ho2
  have HB2 := Lib.hid hB2
  have HX2 := Lib.hid hbox2
  clear hW2 hrun hg2 ho2 hB2 hbox2 c0 f0 e0 e2 e3 e4
  go_wp2_with (at_delete; refine wpList_delete_own _ rfl _ _ 71 3 rfl 102 lawK Tryz.underlying71 tokR m (Maps.size D) D rfl hown2 _ _ rfl (key_of k (by have := hd.few; omega)) ?_; intro w3 hown3 hturn3)
  go_end0
  have hgr := hturn3.grown
  have h3 : ∀ i, i ≠ m → i < W2.heap.size → w3.heap[i]? = W2.heap[i]? := fun i hi hl => hgr.block i hl (fun e => hi (by injection e))
  refine ⟨rfl, ⟨?_, ?_, ?_⟩, HB2.out.grown hgr (Or.inr (Or.inr (Or.inl rfl)))⟩
  · show w3.heap[b]? = _
    rw [h3 b hne.2.1 (obj_lt HX2.out), HX2.out]
    simp
  · have hcs := HCS.out
    refine PRow.spliced (w := W) (j := j) ⟨cur, HQ.out⟩ hd.fit hk (by omega) (d.cells.getD k sec0).safe (fit_at hd.fit hk).2 ⟨x, x, false⟩ ?_ cur HQ.out.1 ?_
    · rw [HX.out]; exact bytes_cut _ _ j (fit_at hd.fit hk).2
    · rw [h3 g hne.2.2 (obj_lt HG2.out), HG2.out, hcs]
  · exact ⟨_, own_tight hown3, hK.del hk _ rfl⟩

set_option maxRecDepth 100000 in
set_option maxHeartbeats 1000000 in
theorem psettle_all {w : World} {b g cap m : Nat} {d : Dv} (h : PDev w b g cap m d) (hd : d.Ok) (k : Nat) (hk : k < d.cells.length) (hl : (d.cells.getD k sec0).loose = true) (x : ByteArray) (hx : x = (d.cells.getD k sec0).now) :
    Calls Tryz.prog 34 #[.pointer (some ⟨b, 0, none⟩), .int .i64 k, .int .i64 64] w fun e w' => e = .returned (.tuple #[]) ∧ PDev w' b g cap m ⟨d.cells.set k ⟨x, x, false⟩, d.ops, d.armed, d.dead⟩ ∧ But b g m w w' := by
  have HX := Lib.hid hx
  clear hx
  have hlk := h.look hd hk hl
  obtain ⟨V, hV, hVs, hVa⟩ : ∃ V : Array Value, arrV (d.cells.getD k sec0).safe = .agg V ∧ V.size = 64 ∧ V.all (·.oneCell') = true := ⟨_, rfl, by show (bytesV _).length = 64; rw [bytesV_len, (fit_at hd.fit hk).2], bytes_all _⟩
  rw [hV] at hlk
  have hst := stored64 w V hVs hVa
  obtain ⟨c0, c1, c2, c3, c4, f0, f1, f2, f3, f4⟩ := five_cells h.box
  clear hV
  go_enter Tryz.func34, Tryz.ntmps34
  have hB0 : Below w.heap.size w (w.alloc (.cells V 102)) := (Below.refl _ w).alloc (Nat.le_refl _) _
  go_upto_region 1 with fail
  obtain ⟨W, hW⟩ : ∃ W, W = w.alloc (.cells V 102) := ⟨_, rfl⟩
  rw [← hW] at hB0 ⊢
  clear hW hst c0 c1 c2 c3 c4 f0 f1 f2 f3 f4
  have hW := h.step hB0
  obtain ⟨c0, c1, c2, c3, c4, f0, f1, f2, f3, f4⟩ := five_cells hW.box
  have i1 : (k : Int) < (d.cells.length : Int) := by omega
  have HW := Lib.hid hW
  have HB := Lib.hid hB0
  clear h hW hB0 c1 c2 c3 c4 f1 f2 f3 f4 hlk hVa
  have hrun := run_copy_none (P := Tryz.prog) W.drew 51 51 3 5 (some ⟨g, k * 64, none⟩) (some ⟨w.heap.size, 0, none⟩) 0 0 0 0 Tryz.underlying51 (by kernel_rfl) rfl
  go_region_law (refine step_copy_runI rfl _ _ _ _ rfl _ _ rfl rfl hrun ?_)
  obtain ⟨W2, hW2⟩ : ∃ W2, W2 = W.drew := ⟨_, rfl⟩
  rw [← hW2]
  have hPD2 : PDev W2 b g cap m d := by rw [hW2]; exact HW.out.drew
  have hne := hPD2.ne
  have hB2 : But b g m w W2 := by rw [hW2]; exact ((But.refl b g m w).step HB.out).drew
  obtain ⟨D, hown2, hK⟩ := hPD2.map
  obtain ⟨e0, e1, e2, e3, e4, _⟩ := five_cells hPD2.box
  have HP2 := Lib.hid hPD2
  have HB2 := Lib.hid hB2
  clear hW2 hrun hPD2 hB2 c0 f0 e0 e2 e3 e4
  go_wp2_with (at_delete; refine wpList_delete_own _ rfl _ _ 71 3 rfl 102 lawK Tryz.underlying71 tokR m (Maps.size D) D rfl hown2 _ _ rfl (key_of k (by have := hd.few; omega)) ?_; intro w3 hown3 hturn3)
  go_end0
  have hgr := hturn3.grown
  have h3 : ∀ i, i ≠ m → i < W2.heap.size → w3.heap[i]? = W2.heap[i]? := fun i hi hl => hgr.block i hl (fun e => hi (by injection e))
  refine ⟨rfl, ⟨?_, ?_, ?_⟩, HB2.out.grown hgr (Or.inr (Or.inr (Or.inl rfl)))⟩
  · show w3.heap[b]? = _
    rw [h3 b hne.2.1 HP2.out.lt.1, HP2.out.box]
    simp
  · have hrow := HP2.out.row.kept (h3 g hne.2.2 HP2.out.lt.2.1)
    obtain ⟨cur, q0, q1, q2, q3, q4⟩ := hrow
    refine ⟨cur, q0, by simpa using q1, q2, q3, ?_⟩
    rw [List.length_set, q4, now_split k hk]
    have e : d.cells.set k ⟨x, x, false⟩ = d.cells.take k ++ (⟨x, x, false⟩ :: d.cells.drop (k + 1)) := by rw [List.set_eq_take_append_cons_drop, if_pos hk]
    show _ = nowCells (d.cells.set k ⟨x, x, false⟩)
    rw [e, now_more, ← HX.out]; rfl
  · exact ⟨_, own_tight hown3, hK.del hk _ rfl⟩
end Go.Proofs.YtcbmecpeockdeaaGreatDoor
