/- The program's put: a sector is written, and is loose. -/
import Derived.Test.YtcbmecpeockdeaaGreatDoorSettle8
import Derived.RegionTactic
import Derived.BigRegion
import Derived.Deep.RegionHeld3
namespace Go.Proofs.YtcbmecpeockdeaaGreatDoor
open Go.RowKit Go.Maps

/-- What the map says of any sector. -/
theorem PDev.look2 {w : World} {b g cap m : Nat} {d : Dv} (h : PDev w b g cap m d) (hd : d.Ok) {k : Nat} (hk : k < d.cells.length) :
    ∃ y : ByteArray, y.size = 64 ∧ (Instr.lookup 71 (.map (some m)) (.int .i64 (k : Int)) true).run Tryz.prog w = .ok (.tuple #[arrV y, .bool (d.cells.getD k sec0).loose]) w := by
  obtain ⟨D, ho, hK⟩ := h.map
  obtain ⟨v, ps, hrun, hv⟩ := ho.look_ok lawK Tryz.underlying71 (zeroArr w) rfl (key_of k (by have := hd.few; omega))
  have hlo : Maps.has D (.int .i64 (k : Int)) = (d.cells.getD k sec0).loose := by
    rw [Bool.eq_iff_iff, hK.has]
    constructor
    · rintro ⟨i, _, h2, h3⟩; rw [key_inj h3]; exact h2
    · intro h2; exact ⟨k, hk, h2, rfl⟩
  rw [hrun, hlo]
  unfold tokR at hv
  simp only [Option.some.injEq, Prod.mk.injEq] at hv
  cases hl : (d.cells.getD k sec0).loose with
  | true =>
    rw [hK.val k hk hl] at hv
    have := hv.1
    injection this with this
    exact ⟨_, (fit_at hd.fit hk).2, by rw [this]⟩
  | false =>
    rw [atKey_of_not_has (by rw [hlo, hl])] at hv
    have := hv.1
    injection this with this
    exact ⟨zero64, zero_size, by rw [this]⟩
/-- 'copy' of a text into the row of sectors. -/
theorem copy_text {W : World} {g o : Nat} {t : ByteArray} {cur : List Value} {T : TypeId} (hg : W.heap[g]? = some (.cells cur.toArray T (0, 0))) (ht : 64 ≤ t.size) (hfit : o + 64 ≤ cur.length) (ty : TypeId) :
    (Builtin.copy_ #[51, 9] ty #[.slice (some ⟨g, o, none⟩) 64 64, .string t]).run Tryz.prog W = .ok (goInt 64) (W.setRow g (splice cur o (bytesV (t.extract 0 64))).toArray) := by
  have hl : (bytesV (t.extract 0 64)).length = 64 := by rw [bytesV_len, ByteArray.size_extract]; omega
  have hst := run_storeCells_at Tryz.prog g o T (bytesV (t.extract 0 64)) 0 cur.toArray W hg (by rw [hl]; simpa using hfit) (byte_one _)
  have hmin : Nat.min t.size 64 = 64 := Nat.min_eq_right ht
  have hm : (t.extract 0 64).data.map (fun b : UInt8 => Value.int IntKind.u8 (b.toNat : Int)) = (bytesV (t.extract 0 64)).toArray := by
    refine Array.ext' ?_
    unfold bytesV
    simp
  have hs : (Tryz.prog.info? 5).map (·.size) = some 1 := by kernel_rfl
  rw [hl] at hst
  simp only [Nat.add_zero] at hst
  cases hq : Tryz.prog.info? 5 with
  | none => rw [hq] at hs; simp at hs
  | some i =>
    have hlist : (Array.map (fun b : UInt8 => Value.int IntKind.u8 (b.toNat : Int)) (t.extract 0 64).data).toList = bytesV (t.extract 0 64) := by rw [hm]
    rw [← hlist] at hst ⊢
    simp [Builtin.copy_, run_underlying Tryz.underlying51, Builtin.lenOf, Builtin.firstCells, sizeOf, typeInfo, hq, hmin]
    have e2 : List.take 64 (List.map (fun b : UInt8 => Value.int IntKind.u8 (b.toNat : Int)) t.data.toList) = (Array.map (fun b : UInt8 => Value.int IntKind.u8 (b.toNat : Int)) (t.extract 0 64).data).toList := by
      rw [hlist, bytesV_cut]; rfl
    have e3 : ((Array.map (fun b : UInt8 => Value.int IntKind.u8 (b.toNat : Int)) (t.extract 0 64).data).toList).length = 64 := by rw [hlist, hl]
    rw [e2, hst]
    unfold splice
    rw [e3, List.append_assoc]
    rfl
/-- Loading a sector's bytes. -/
theorem load64 {W : World} {g o : Nat} {V : Array Value} (hV : V.size = 64) (hc : ∀ i, i < 64 → W.cell? ⟨g, o + i, none⟩ = V[i]?) : (loadCellsFrom ⟨g, o, none⟩ 0 64 #[]).run Tryz.prog W = .ok V W := by
  have h := run_loadCells_list (P := Tryz.prog) W ⟨g, o, none⟩ V.toList (fun j v hj => by
    have hj' : j < 64 := by
      have := (List.getElem?_eq_some_iff.1 hj).1
      simpa [hV] using this
    have e : (⟨g, o, none⟩ : Addr).add j = ⟨g, o + j, none⟩ := by unfold Addr.add; split <;> simp_all
    rw [e, hc j hj']
    simpa using hj)
  simpa [loadCells, hV] using h
theorem PDev.loads {w : World} {b g cap m : Nat} {d : Dv} (h : PDev w b g cap m d) (hd : d.Ok) {k : Nat} (hk : k < d.cells.length) : (loadCellsFrom ⟨g, k * 64, none⟩ 0 64 #[]).run Tryz.prog w = .ok ⟨bytesV (d.cells.getD k sec0).now⟩ w :=
  load64 (by show (bytesV _).length = 64; rw [bytesV_len, (fit_at hd.fit hk).1]) (fun i hi => by rw [h.row.cell hd.fit hk hi]; rw [List.getElem?_toArray])
theorem calm_at {l : List Sec} (h : Calm l) {k : Nat} (hk : k < l.length) (hl : (l.getD k sec0).loose = false) : (l.getD k sec0).now = (l.getD k sec0).safe := by
  rw [List.getD_eq_getElem?_getD, List.getElem?_eq_getElem hk] at hl ⊢
  exact h _ (List.getElem_mem hk) hl

/-- A sector written, in memory: the row spliced, and the map as it is to be. -/
theorem PDev.wrote {w W w' : World} {b g cap m : Nat} {d : Dv} (h : PDev w b g cap m d) (hd : d.Ok) {k : Nat} (hk : k < d.cells.length) (t : ByteArray) (ht : t.size = 64)
    (hb : W.heap[b]? = w.heap[b]?) (hg : W.heap[g]? = w.heap[g]?) (cur : List Value) (hcur : W.heap[g]? = some (.cells cur.toArray 102 (0, 0)))
    (D : DataW Value) (hm : W.ownsMap Tryz.prog 3 tokR m (Maps.size D) D) (hK : Keeps D (d.cells.set k ⟨t, (d.cells.getD k sec0).safe, true⟩)) (hw : w' = W.setRow g (splice cur (k * 64) (bytesV t)).toArray) :
    PDev w' b g cap m ⟨d.cells.set k ⟨t, (d.cells.getD k sec0).safe, true⟩, d.ops, d.armed, d.dead⟩ := by
  have hne := h.ne
  subst hw
  refine ⟨?_, ?_, ?_⟩
  · show (W.setRow g _).heap[b]? = _
    rw [setRow_other _ _ _ _ hne.1, hb, h.box]
    simp
  · have hs : splice cur (k * 64) (bytesV t) = splice cur (k * 64 + 0) ((bytesV t).drop 0) := by simp
    exact PRow.spliced (w := W) (j := 0) (h.row.kept hg) hd.fit hk (by omega) t ht ⟨t, (d.cells.getD k sec0).safe, true⟩ (by simp) cur hcur (by rw [← hs]; exact setRow_heap _ _ _ _ _ _ hcur)
  · obtain ⟨es, clock, hm1, r⟩ := hm
    exact ⟨D, ⟨es, clock, (setRow_other _ _ _ _ (fun e => hne.2.2 e.symm)).trans hm1, r⟩, hK⟩

set_option maxRecDepth 100000 in
set_option maxHeartbeats 1000000 in
theorem pput_any {w : World} {b g cap m : Nat} {d : Dv} (h : PDev w b g cap m d) (hd : d.Ok) (k : Nat) (hk : k < d.cells.length) (t : ByteArray) (ht : 64 ≤ t.size) (c : Sec) (hc : c = ⟨t.extract 0 64, (d.cells.getD k sec0).safe, true⟩) :
    Calls Tryz.prog 61 #[.pointer (some ⟨b, 0, none⟩), .int .i64 k, .string t] w fun e w' => e = .returned (.tuple #[]) ∧ PDev w' b g cap m ⟨d.cells.set k c, d.ops, d.armed, d.dead⟩ ∧ But b g m w w' := by
  have HCC := Lib.hid hc
  clear hc
  obtain ⟨y, hy, hlk⟩ := h.look2 hd hk
  obtain ⟨V, hV, hVs, hVa⟩ : ∃ V : Array Value, arrV y = .agg V ∧ V.size = 64 ∧ V.all (·.oneCell') = true := ⟨_, rfl, by show (bytesV _).length = 64; rw [bytesV_len, hy], bytes_all _⟩
  rw [hV] at hlk
  have hst := stored64 w V hVs hVa
  obtain ⟨c0, c1, c2, c3, c4, f0, f1, f2, f3, f4⟩ := five_cells h.box
  have htx : (t.extract 0 64).size = 64 := by rw [ByteArray.size_extract]; omega
  clear hV
  have hB0 : Below w.heap.size w (w.alloc (.cells V 102)) := (Below.refl _ w).alloc (Nat.le_refl _) _
  have i1 : (k : Int) < (d.cells.length : Int) := by omega
  have H := Lib.hid h
  clear h
  cases hlo : (d.cells.getD k sec0).loose with
  | true =>
    rw [hlo] at hlk
    have HLO := Lib.hid hlo
    clear hlo
    go_enter Tryz.func61, Tryz.ntmps61
    go_upto_region 3 with fail
    obtain ⟨W, hW⟩ : ∃ W, W = w.alloc (.cells V 102) := ⟨_, rfl⟩
    rw [← hW] at hB0 ⊢
    clear hW hst c0 c1 c2 c3 c4 f0 f1 f2 f3 f4 hlk hVa
    have hPW := H.out.step hB0
    have hne := hPW.ne
    obtain ⟨c0, _⟩ := five_cells hPW.box
    obtain ⟨cur, hcur, q1, q2, q3, q4⟩ := hPW.row
    have hcp := copy_text (W := W) (o := k * 64) hcur ht (by omega) 3
    have HC := Lib.hid hcur
    have HPW := Lib.hid hPW
    have HB := Lib.hid hB0
    clear hcur q1 q2 q3 q4 hPW hB0
    go_wp2_with (at_builtin; refine wpList_copy_runI _ rfl _ _ _ _ rfl _ _ rfl rfl hcp ?_)
    go_end0
    obtain ⟨D, hown, hK⟩ := HPW.out.map
    refine ⟨rfl, ?_, ?_⟩
    · rw [HCC.out]; exact HPW.out.wrote hd hk (t.extract 0 64) htx rfl rfl cur HC.out D hown (hK.again hk HLO.out _ rfl rfl) rfl
    · exact ((But.refl b g m w).step HB.out).row _ (Or.inr (Or.inl rfl))
  | false =>
    rw [hlo] at hlk
    have HLO := Lib.hid hlo
    clear hlo
    go_enter Tryz.func61, Tryz.ntmps61
    go_upto_region 2 with fail
    obtain ⟨W, hW⟩ : ∃ W, W = w.alloc (.cells V 102) := ⟨_, rfl⟩
    rw [← hW] at hB0 ⊢
    clear hW hst c0 c1 c2 c3 c4 f0 f1 f2 f3 f4 hlk hVa
    have hPW := H.out.step hB0
    have hne := hPW.ne
    obtain ⟨c0, c1, _⟩ := five_cells hPW.box
    have hra : W.rangeAt g (k * 64) (bytesV (d.cells.getD k sec0).now) := fun i v hv => by
      have hi : i < 64 := by
        have := (List.getElem?_eq_some_iff.1 hv).1
        rwa [bytesV_len, (fit_at hd.fit hk).1] at this
      rw [hPW.row.cell hd.fit hk hi]; exact hv
    obtain ⟨D, hown, hK⟩ := hPW.map
    have hca := calm_at hd.calm hk HLO.out
    have hsz := keeps_size _ hK (hown.canon lawK)
    have hll := looseI_len d.cells
    obtain ⟨w3, hmu, hown3, hturn⟩ := World.ownsMap.store (w := W.drew) hown lawK Tryz.underlying71 (by have := hd.few; unfold maxLen; omega) (key_of k (by have := hd.few; omega)) (val := arrV (d.cells.getD k sec0).safe) (d := .held (arrV (d.cells.getD k sec0).safe)) (ps := []) rfl
    have hK3 := hK.put hown.isMap hk (⟨t.extract 0 64, (d.cells.getD k sec0).safe, true⟩ : Sec) rfl
    rw [← hca] at hmu
    unfold arrV at hmu
    have hul : (bytesV (d.cells.getD k sec0).now).length = 64 := by rw [bytesV_len, (fit_at hd.fit hk).1]
    have hu1 := byte_one (d.cells.getD k sec0).now
    obtain ⟨U, hU⟩ : ∃ U, U = bytesV (d.cells.getD k sec0).now := ⟨_, rfl⟩
    rw [← hU] at hmu hra hul hu1
    have hu := Tryz.underlying102
    have hi : (Tryz.prog.info? 102).map (·.size) = some U.length := by rw [hul]; kernel_rfl
    have hgr := hturn.grown
    have h3 : ∀ i, i ≠ m → i < W.heap.size → w3.heap[i]? = W.heap[i]? := fun i hi hl => hgr.block i hl (fun e => hi (by injection e))
    have hbx := (h3 b hne.2.1 hPW.lt.1).trans hPW.box
    obtain ⟨e0, _⟩ := five_cells hbx
    obtain ⟨cur, hcur, q1, q2, q3, q4⟩ := hPW.row
    have hcur3 := (h3 g hne.2.2 hPW.lt.2.1).trans hcur
    have hcp := copy_text (W := w3) (o := k * 64) hcur3 ht (by omega) 3
    have hra3 : w3.rangeAt g (k * 64) U := fun i v hv => by rw [World.cell?_of_block (w := W) (h3 g hne.2.2 hPW.lt.2.1)]; exact hra i v hv
    obtain ⟨e1, _⟩ : w3.cell? ⟨b, 1, none⟩ = some (.map (some m)) ∧ True := ⟨(five_cells hbx).2.1, trivial⟩
    have HX3 := Lib.hid (h3 b hne.2.1 hPW.lt.1)
    have HG3 := Lib.hid (h3 g hne.2.2 hPW.lt.2.1)
    have HC := Lib.hid hcur3
    have HPW := Lib.hid hPW
    have HO := Lib.hid hown3
    have HBB := Lib.hid ((((But.refl b g m w).step hB0).drew).grown hgr (Or.inr (Or.inr (Or.inl rfl))))
    clear hcur q1 q2 q3 q4 hPW hB0 hbx hcur3 h3 hgr hown hown3 hturn hsz hll hca hU hK
    go_region_held3 (fun w' => w'.cell? ⟨b, 0, none⟩ = some (.slice (some ⟨g, 0, none⟩) d.cells.length cap) ∧ w'.cell? ⟨b, 1, none⟩ = some (.map (some m)) ∧ w'.rangeAt g (k * 64) U) (go_keep_ranges) (fail)
    clear hmu hra hra3 hul hu1 hu hi c0 c1 e1
    go_wp2_with (at_builtin; refine wpList_copy_runI _ rfl _ _ _ _ rfl _ _ rfl rfl hcp ?_)
    go_end0
    refine ⟨rfl, ?_, ?_⟩
    · rw [HCC.out]; exact HPW.out.wrote hd hk (t.extract 0 64) htx HX3.out HG3.out cur HC.out _ (own_tight HO.out) hK3 rfl
    · exact HBB.out.row _ (Or.inr (Or.inl rfl))
end Go.Proofs.YtcbmecpeockdeaaGreatDoor
