/- What an act leaves alone: a sector that it does not write, of which all is safe. -/
import Derived.Test.YtocengdojdeiiaaTen8
import Derived.Test.YtocengdojdeiiaaChoice8
import Derived.Test.YtocengdojdeiiaaPlays8
namespace Go.Proofs.Ytocengdojdeiiaa
open Go.RowKit Go.Maps

/-- A sector has this text, and this text is safe. -/
def Quiet (d : Dv) (k : Nat) (v : ByteArray) : Prop := (d.cells.getD k sec0).now = v ∧ (d.cells.getD k sec0).safe = v
theorem getD_at {l : List Sec} {k : Nat} (h : k < l.length) : l.getD k sec0 = l[k] := by rw [List.getD_eq_getElem?_getD, List.getElem?_eq_getElem h]; rfl
theorem text_whole (v : ByteArray) (h : v.size = 64) (j : Nat) (hj : j ≤ 64) : v.extract 0 j ++ v.extract j 64 = v := by
  have hl : v.data.toList.length = 64 := by rw [text_size]; exact h
  refine text_eq ?_
  rw [ByteArray.data_append, Array.toList_append, cut_list, cut_list, List.drop_zero, Nat.sub_zero, List.take_of_length_le (show ((v.data.toList).drop j).length ≤ 64 - j by rw [List.length_drop]; omega), List.take_append_drop]
theorem quiet_boot {d : Dv} (hd : d.Ok) {k : Nat} (hk : k < d.cells.length) {v : ByteArray} (h : Quiet d k v) (ks : List Bool) (tn ct : Int) : Quiet (d.boot ks tn ct) k v := by
  have hs := fit_at hd.fit hk
  rw [h.1, h.2] at hs
  have hc : (d.boot ks tn ct).cells.getD k sec0 = if k < d.cells.length ∧ d.cells[k].loose = true then ⟨leftOf d.cells[k] (looseTo d.cells k) ks tn ct, leftOf d.cells[k] (looseTo d.cells k) ks tn ct, false⟩ else d.cells[k] := by
    show (booted d.cells ks tn ct d.cells.length).getD k sec0 = _
    rw [getD_at (by rw [booted_len]; exact hk)]
    simp only [booted, List.getElem_mapIdx]
  have h1 : d.cells[k].now = v := by have := h.1; rw [getD_at hk] at this; exact this
  have h2 : d.cells[k].safe = v := by have := h.2; rw [getD_at hk] at this; exact this
  have hl : leftOf d.cells[k] (looseTo d.cells k) ks tn ct = v := by
    unfold leftOf
    split
    · rw [h1, h2, hs.1]; exact text_whole v hs.1 _ (cut_le ct)
    · split
      · exact h1
      · exact h2
  unfold Quiet
  rw [hc]
  split
  · exact ⟨hl, hl⟩
  · exact ⟨h1, h2⟩
theorem quiet_flush {d : Dv} {k : Nat} (hk : k < d.cells.length) {v : ByteArray} (h : Quiet d k v) : Quiet d.flush k v := by
  unfold Dv.flush
  split
  · exact h
  · split
    · exact h
    · have hc : (flushed d.cells).getD k sec0 = ⟨d.cells[k].now, d.cells[k].now, false⟩ := by
        rw [getD_at (by rw [flushed_len]; exact hk)]
        unfold flushed
        simp
      have h1 : d.cells[k].now = v := by have := h.1; rw [getD_at hk] at this; exact this
      unfold Quiet
      show ((flushed d.cells).getD k sec0).now = v ∧ ((flushed d.cells).getD k sec0).safe = v
      rw [hc]
      exact ⟨h1, h1⟩
theorem quiet_write {d : Dv} {k : Nat} (hk : k < d.cells.length) {v : ByteArray} (h : Quiet d k v) (p : Int) (t : ByteArray) (hn : ¬ (0 ≤ p ∧ p ≤ k ∧ (k : Int) - p < (t.size / 64 : Nat))) : Quiet (d.write p t) k v := by
  unfold Dv.write
  split
  · rename_i hw
    obtain ⟨_, h1, h2, h3, h4⟩ := (writable_iff d p t).1 hw
    have hr := reach_le d (t.size / 64)
    have hc : (wrote d.cells p.toNat t (d.reach (t.size / 64))).getD k sec0 = d.cells.getD k sec0 := by
      rw [getD_at (by rw [wrote_len]; exact hk), getD_at hk]
      simp only [wrote, List.getElem_mapIdx]
      rw [if_neg (by omega)]
    unfold Quiet
    show ((wrote d.cells p.toNat t (d.reach (t.size / 64))).getD k sec0).now = v ∧ ((wrote d.cells p.toNat t (d.reach (t.size / 64))).getD k sec0).safe = v
    rw [hc]
    exact h
  · exact h
theorem text_secs (a : AV) (h : a.num ≤ 100) : ((a.text.size / 64 : Nat) : Int) = if a.num < 0 then 0 else a.num := by
  unfold AV.text
  split
  · rfl
  · rw [fillT_size]; omega
/-- An act leaves a quiet sector alone that it does not write. -/
theorem quiet_do {d : Dv} (hd : d.Ok) {k : Nat} (hk : k < d.cells.length) {v : ByteArray} (h : Quiet d k v) (a : AV) (ha : a.num ≤ 100) (hn : ¬ (a.kind = 0 ∧ 0 ≤ a.pos ∧ a.pos ≤ k ∧ (k : Int) - a.pos < a.num)) : Quiet (d.doA a) k v := by
  unfold Dv.doA
  split
  · rename_i h0
    refine quiet_write hk h _ _ ?_
    rw [text_secs a ha]
    rintro ⟨q1, q2, q3⟩
    split at q3
    · omega
    · exact hn ⟨h0, q1, q2, q3⟩
  split; exact quiet_flush hk h
  split; (unfold Dv.arm; split <;> exact h)
  split; exact h
  split; exact quiet_boot hd hk h _ _ _
  exact h
/-- Writing and booting do not arm, and leave the power on. -/
theorem do_tame {d : Dv} (h0 : d.armed = 0) (h1 : d.dead = false) (a : AV) (hk : a.kind = 0 ∨ a.kind = 4) : (d.doA a).armed = 0 ∧ (d.doA a).dead = false := by
  unfold Dv.doA
  rcases hk with hk | hk
  · rw [if_pos hk]
    unfold Dv.write
    split
    · unfold Dv.wrote
      simp only
      rw [h0, if_neg (by omega), if_neg (by omega)]
      exact ⟨rfl, h1⟩
    · exact ⟨h0, h1⟩
  · rw [if_neg (by omega), if_neg (by omega), if_neg (by omega), if_neg (by omega), if_pos hk]
    exact ⟨rfl, rfl⟩
theorem flush_tame {d : Dv} (h0 : d.armed = 0) (h1 : d.dead = false) : d.flushE = 0 ∧ d.flush.dead = false ∧ d.flush.ops = d.ops + 1 ∧ d.flush.cells = flushed d.cells := by
  have hh : d.hit = false := by unfold Dv.hit; rw [h0]; rfl
  refine ⟨?_, ?_, ?_, ?_⟩
  · unfold Dv.flushE; rw [h1, hh, if_neg (by decide), if_neg (by decide)]
  all_goals unfold Dv.flush; rw [h1, hh, if_neg (by decide), if_neg (by decide)]
  · show (if d.armed = 1 then true else d.dead) = false
    rw [h0, if_neg (by decide)]; exact h1
  · rfl
theorem quiet_flushed {d : Dv} (h0 : d.armed = 0) (h1 : d.dead = false) {k : Nat} (hk : k < d.cells.length) : Quiet d.flush k (d.flush.cells.getD k sec0).now := by
  refine ⟨rfl, ?_⟩
  rw [(flush_tame h0 h1).2.2.2, getD_at (by rw [flushed_len]; exact hk)]
  unfold flushed
  simp
/-- What is read of twelve sectors. -/
def all12 (d : Dv) : ByteArray := cat (d.cells.map Sec.now)
theorem read12 {d : Dv} (h1 : d.dead = false) (hl : d.cells.length = 12) : d.readE 0 12 = 0 ∧ d.readT 0 12 = all12 d := by
  have he : d.readE 0 12 = 0 := by
    unfold Dv.readE
    rw [h1, if_neg (by decide), if_neg (by omega), if_pos (by rw [hl]; omega)]
  refine ⟨he, ?_⟩
  unfold Dv.readT all12
  rw [if_pos he]
  congr 2
  show (d.cells.drop 0).take 12 = d.cells
  rw [List.drop_zero, List.take_of_length_le (by omega)]
theorem all12_size {d : Dv} (hd : d.Ok) (hl : d.cells.length = 12) : (all12 d).size = 768 := by
  unfold all12
  rw [cat_size _ (fun x hx => by obtain ⟨c, hc, rfl⟩ := List.mem_map.1 hx; exact (hd.fit c hc).1), List.length_map, hl]
theorem all12_sec {d : Dv} (hd : d.Ok) (hl : d.cells.length = 12) {k : Nat} (hk : k < 12) : secOf (all12 d) k = (d.cells.getD k sec0).now := by
  unfold all12
  rw [cat_sec _ (fun x hx => by obtain ⟨c, hc, rfl⟩ := List.mem_map.1 hx; exact (hd.fit c hc).1) k (by rw [List.length_map, hl]; exact hk), getD_at (by omega), List.getElem_map]
/-- An act that is no copy leaves the device where it lies. -/
theorem pdo_here {w : World} {b g cap m : Nat} {d : Dv} (h : PDev w b g cap m d) (hd : d.Ok) (ho : d.ops < 9223372036854773807) (a : AV) (hn : a.num ≤ 100) (h5 : a.kind ≠ 5) (hK : Bools w.heap.size w a.ka a.keep) (hne : Far a.ka a.keep b g m) :
    Calls Try.prog 12 #[.pointer (some ⟨b, 0, none⟩), .agg #[.int .i64 a.kind, .int .i64 a.pos, .int .i64 a.num, .int .u8 a.byte.toNat, .slice a.ka a.keep.length a.kc, .int .i64 a.torn, .int .i64 a.cut]] w fun e w' => e = .returned (.tuple #[.pointer (some ⟨b, 0, none⟩), .int .i64 (d.doE a)]) ∧ PDev w' b g cap m (d.doA a) ∧ But b g m w w' := by
  obtain ⟨kind, pos, num, byte, ka, kc, keep, torn, cut⟩ := a
  simp only at hn hK hne h5 ⊢
  unfold Dv.doE Dv.doA
  simp only
  by_cases q0 : kind = 0
  · subst q0
    rw [if_pos rfl, if_pos rfl]
    exact pdo_write h hd ho pos num byte _ torn cut hn _ rfl (text_le ⟨0, pos, num, byte, ka, kc, keep, torn, cut⟩ hn)
  rw [if_neg q0, if_neg q0]
  by_cases q1 : kind = 1
  · subst q1
    rw [if_pos rfl, if_pos rfl]
    exact pdo_flush h hd (by omega) pos num byte _ torn cut
  rw [if_neg q1, if_neg q1]
  by_cases q2 : kind = 2
  · subst q2
    rw [if_pos rfl, if_pos rfl]
    exact pdo_arm h hd pos num byte _ torn cut
  rw [if_neg q2, if_neg q2]
  by_cases q3 : kind = 3
  · subst q3
    rw [if_pos rfl]
    exact pdo_off h hd pos num byte _ torn cut
  rw [if_neg q3]
  by_cases q4 : kind = 4
  · subst q4
    rw [if_pos rfl]
    exact pdo_boot h hd pos num byte ka kc keep torn cut hK hne
  rw [if_neg q4]
  exact (pdo_else kind ⟨q0, q1, q2, q3, q4, h5⟩ pos num byte _ torn cut).mono fun e w' ⟨he, hb⟩ => ⟨he, h.step hb, But.of_below hb⟩
end Go.Proofs.Ytocengdojdeiiaa
