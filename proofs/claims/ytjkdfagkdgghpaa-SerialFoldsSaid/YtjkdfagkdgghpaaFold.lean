/- serial.Fold answers for every text of whatever bytes just what the plain words say; it leaves what lay there. -/
import Derived.Test.YtjkdfagkdgghpaaBuild
import Derived.Test.YtjkdfagkdgghpaaCheck
namespace Go.Proofs.Ytjkdfagkdgghpaa
open Go.RowKit

theorem run_high (ok : UInt8 → Bool) (hok : ∀ c : UInt8, 128 ≤ c.toNat → ok c = false) (l : List UInt8) (d : Bool) (h : ∃ c ∈ l, 128 ≤ c.toNat) : run ok d l = none := by
  induction l generalizing d with
  | nil => obtain ⟨c, hc, _⟩ := h; cases hc
  | cons x l ih =>
    obtain ⟨c, hc, hh⟩ := h
    rcases List.mem_cons.1 hc with rfl | hc
    · simp only [run]; rw [hok _ hh]; rfl
    · simp only [run]
      split
      · exact ih _ ⟨c, hc, hh⟩
      · rfl
theorem cap_toNat (c : UInt8) : ((cap c).toNat : Int) = capOf (c.toNat : Int) := by
  unfold cap capOf
  by_cases h : 97 ≤ c.toNat ∧ c.toNat ≤ 122
  · rw [if_pos h, if_pos (by omega), UInt8.toNat_sub_of_le _ _ (by rw [UInt8.le_iff_toNat_le]; show 32 ≤ c.toNat; omega)]
    show ((c.toNat - 32 : Nat) : Int) = _
    omega
  · rw [if_neg h, if_neg (by omega)]
theorem okC_cap (c : UInt8) : okC (cap c) = okF c := by
  have h := cap_toNat c
  unfold okF okC
  unfold capOf at h
  rw [Bool.eq_iff_iff]
  by_cases hc : 97 ≤ c.toNat ∧ c.toNat ≤ 122
  · rw [if_pos (by omega)] at h
    simp; omega
  · rw [if_neg (by omega)] at h
    simp; omega
theorem cap_dash (c : UInt8) : decide ((cap c).toNat = 45) = decide (c.toNat = 45) := by
  have h := cap_toNat c
  unfold capOf at h
  rw [Bool.eq_iff_iff]
  by_cases hc : 97 ≤ c.toNat ∧ c.toNat ≤ 122
  · rw [if_pos (by omega)] at h
    simp; omega
  · rw [if_neg (by omega)] at h
    simp; omega
theorem run_cap (l : List UInt8) (d : Bool) : run okC d (l.map cap) = run okF d l := by
  induction l generalizing d with
  | nil => rfl
  | cons c l ih => simp only [List.map_cons, run, okC_cap, cap_dash, ih]
theorem serial_cap (l : List UInt8) : serialB okC (l.map cap) = serialB okF l := by
  unfold serialB; rw [run_cap, List.length_map]
theorem check_cap (l : List UInt8) : checkOf (l.map cap) = foldE l := by unfold checkOf foldE; rw [serial_cap]
theorem high_byte (r : Int) (h : 128 ≤ r) (h2 : r ≤ 2147483647) : ∃ c ∈ Lib.encodeRune r, 128 ≤ c.toNat := by
  have hz : ∃ x ∈ Lib.encodeRuneZ r, 128 ≤ x ∧ x < 256 := by
    unfold Lib.encodeRuneZ
    rw [if_neg (by omega)]
    split
    · exact ⟨_, List.mem_cons_self .., by omega⟩
    · split
      · exact ⟨_, List.mem_cons_self .., by omega⟩
      · split
        · exact ⟨_, List.mem_cons_self .., by omega⟩
        · exact ⟨_, List.mem_cons_self .., by omega⟩
  obtain ⟨x, hx, h1, h3⟩ := hz
  refine ⟨x.toNat.toUInt8, List.mem_map.2 ⟨x, hx, rfl⟩, ?_⟩
  have : x.toNat.toUInt8.toNat = x.toNat := by
    show x.toNat % 256 = x.toNat
    omega
  omega
theorem encode_cap (c : UInt8) (h : c.toNat < 128) : Lib.encodeRune (capOf (c.toNat : Int)) = [cap c] := by
  rw [← cap_toNat]
  have hl : (cap c).toNat ≤ 127 := by
    have := cap_toNat c
    unfold capOf at this
    split at this <;> omega
  unfold Lib.encodeRune
  rw [Lib.encodeRuneZ_one (by omega) (by omega)]
  simp
theorem fold_none {l : List UInt8} (h : serialB okF l = false) : foldL l = [] ∧ foldE l = 9 := by
  unfold foldL foldE; rw [h]; exact ⟨rfl, rfl⟩
theorem fold_some {l : List UInt8} (h : serialB okF l = true) : foldL l = l.map cap ∧ foldE l = 0 := by
  unfold foldL foldE; rw [h]; exact ⟨rfl, rfl⟩
theorem fold_long {l : List UInt8} (h : 16 < l.length) : serialB okF l = false := by
  unfold serialB; rw [decide_eq_false (by omega)]; rfl
theorem fold_high {l : List UInt8} (h : ∃ c ∈ l, 128 ≤ c.toNat) : serialB okF l = false := by
  unfold serialB; rw [run_high okF (fun c hc => okF_high hc) l true h]; simp
theorem check_high {l : List UInt8} (h : ∃ c ∈ l, 128 ≤ c.toNat) : checkOf l = 9 := by
  exact check_none (run_high okC (fun c hc => okC_high hc) l true h)

/-- What the builder holds when the signs up to a place are read: each of them, as a capital; or some sign that no serial has, as the text itself does. -/
def Held (s : ByteArray) (pos : Nat) (acc : List UInt8) : Prop :=
  acc = (s.data.toList.take pos).map cap ∨ ((∃ c ∈ acc, 128 ≤ c.toNat) ∧ ∃ c ∈ s.data.toList, 128 ≤ c.toNat)

set_option maxHeartbeats 2000000 in
theorem fold_any (s : ByteArray) (w : World) : Calls Try.prog 13 #[.string s] w fun e w' => e = .returned (.tuple #[.string ⟨(foldL s.data.toList).toArray⟩, .int .i64 (foldE s.data.toList)]) ∧ Below w.heap.size w w' := by
  have hlen : s.data.toList.length = s.size := by rw [Array.length_toList]; rfl
  by_cases hs : 16 < s.size
  · have e1 : longB s = true := by simp [longB]; omega
    have e := fold_none (fold_long (l := s.data.toList) (by omega))
    have He := Lib.hid e
    clear hlen e
    go_enter Try.func13, Try.ntmps13
    go_wp2_with (go_at_call 27; refine (long_any _ _).mono ?_; rintro e w' ⟨rfl, rfl⟩)
    go_ret2
    exact ⟨by rw [He.out.1, He.out.2]; rfl, Below.refl _ _⟩
  · have e1 : longB s = false := by simp [longB]; omega
    have HL := Lib.hid hlen
    clear hlen
    go_enter Try.func13, Try.ntmps13
    go_wp2_with (go_at_call 27; refine (long_any _ _).mono ?_; rintro e w' ⟨rfl, rfl⟩)
    go_loopw [] (fun wr => ∃ (pos : Nat) (acc : List UInt8), Lib.IsBuilderF 49 5 w.heap.size w.heap.size (Lib.byteCells acc) wr ∧ wr.heap[w.heap.size + 1]? = some (.stringIter s pos) ∧ Below w.heap.size w wr ∧ Held s pos acc ∧ acc.length ≤ 4 * pos) (fun wr => s.size - wr.iterPos (w.heap.size + 1))
    case atStart =>
      refine ⟨0, [], (Lib.IsBuilderF.of (Lib.fresh_isBuilder 49 5 w)).alloc _, ?_, ((Below.refl _ w).alloc (Nat.le_refl _) _).alloc (by simp) _, Or.inl rfl, by simp⟩
      have := World.iter_heap (w.alloc (.cells #[.pointer none, .slice none 0 0] 49)) s 0
      simpa using this
    case round =>
      obtain ⟨pos, acc, hI, hit, hbw, hheld, hal⟩ := hrel
      have hsz : w.heap.size + 1 < wr.heap.size := (Array.getElem?_eq_some_iff.1 hit).1
      by_cases hp : pos < s.size
      · by_cases ha : (s[pos]'hp).toNat < 128
        · have hnx : ∀ ty, (Instr.next (.pointer (some ⟨w.heap.size + 1, 0, none⟩)) true ty).run Try.prog wr = _ := fun ty => Lib.run_next_ascii_at wr (w.heap.size + 1) s pos ty hit hp ha
          have hI2 := hI.iterAt hit (pos + 1)
          have hit2 := Lib.iterAt_heap wr (w.heap.size + 1) s pos (pos + 1) hit
          have hbw2 := Lib.below_iterAt hbw (k := w.heap.size + 1) (by omega) s (pos + 1)
          have hsz2 : w.heap.size ≤ (wr.iterAt (w.heap.size + 1) s (pos + 1)).heap.size := by rw [Lib.iterAt_size]; omega
          have hc0 : 0 ≤ capOf ((s[pos]'hp).toNat : Int) ∧ capOf ((s[pos]'hp).toNat : Int) ≤ 2147483647 := by unfold capOf; split <;> omega
          have Hh := Lib.hid hheld
          have HI := Lib.hid hit2
          clear hheld hit2
          go_wp2_with (first | (go_at_call 29; refine (cap_any _ _).mono ?_; rintro e w' ⟨rfl, rfl⟩) | (go_at_call 28; refine (rune_written w.heap.size w.heap.size _ _ (by omega) (by omega) _ hI2 (by rw [Lib.byteCells_length]; omega) hsz2).mono ?_; rintro e W1 ⟨rfl, h1, b1, k1⟩))
          go_roundw
          case rel =>
            refine ⟨pos + 1, acc ++ [cap (s[pos]'hp)], ?_, k1.iter HI.out (by omega), hbw2.trans b1, ?_, by simp; omega⟩
            · rw [← encode_cap _ ha, Lib.byteCells_append, Lib.byteCells_encodeRune]; exact Or.inr h1
            · rcases Hh.out with h | ⟨⟨c, hc, h⟩, h'⟩
              · exact Or.inl (by rw [take_snoc s pos hp, h]; simp)
              · exact Or.inr ⟨⟨c, by simp [hc], h⟩, h'⟩
          case measure =>
            simp only [World.iterPos, k1.iter HI.out (by omega), hit]
            omega
        · obtain ⟨hr, hw1⟩ := decode_high s pos hp (by omega)
          have hd1 := decode_le s pos
          have hnx : ∀ ty, (Instr.next (.pointer (some ⟨w.heap.size + 1, 0, none⟩)) true ty).run Try.prog wr = _ := fun ty => Lib.run_next_any_at wr (w.heap.size + 1) s pos ty hit hp
          have hI2 := hI.iterAt hit (pos + (Utf8.decode s pos).2)
          have hit2 := Lib.iterAt_heap wr (w.heap.size + 1) s pos (pos + (Utf8.decode s pos).2) hit
          have hbw2 := Lib.below_iterAt hbw (k := w.heap.size + 1) (by omega) s (pos + (Utf8.decode s pos).2)
          have hsz2 : w.heap.size ≤ (wr.iterAt (w.heap.size + 1) s (pos + (Utf8.decode s pos).2)).heap.size := by rw [Lib.iterAt_size]; omega
          have hcr : capOf ((Utf8.decode s pos).1 : Int) = ((Utf8.decode s pos).1 : Int) := by unfold capOf; rw [if_neg (by omega)]
          have hc0 : 0 ≤ capOf ((Utf8.decode s pos).1 : Int) ∧ capOf ((Utf8.decode s pos).1 : Int) ≤ 2147483647 := by rw [hcr]; omega
          have hhi := high_byte (capOf ((Utf8.decode s pos).1 : Int)) (by rw [hcr]; omega) (by omega)
          have hin : ∃ c ∈ s.data.toList, 128 ≤ c.toNat := ⟨s[pos]'hp, by rw [take_drop_at s pos hp]; simp, by omega⟩
          have HI := Lib.hid hit2
          have Hi := Lib.hid hin
          have Hhi := Lib.hid hhi
          have Hw1 := Lib.hid hw1
          clear hheld hit2 hcr hin hhi hw1
          go_wp2_with (first | (go_at_call 29; refine (cap_any _ _).mono ?_; rintro e w' ⟨rfl, rfl⟩) | (go_at_call 28; refine (rune_written w.heap.size w.heap.size _ _ (by omega) (by omega) _ hI2 (by rw [Lib.byteCells_length]; omega) hsz2).mono ?_; rintro e W1 ⟨rfl, h1, b1, k1⟩))
          go_roundw
          case rel =>
            have hl4 := Lib.runeCells_le (capOf ((Utf8.decode s pos).1 : Int))
            rw [Lib.runeCells_length] at hl4
            refine ⟨pos + (Utf8.decode s pos).2, acc ++ Lib.encodeRune (capOf ((Utf8.decode s pos).1 : Int)), ?_, k1.iter HI.out (by omega), hbw2.trans b1, ?_, by have := Hw1.out; simp; omega⟩
            · rw [Lib.byteCells_append, Lib.byteCells_encodeRune]; exact Or.inr h1
            · obtain ⟨c, hc, h⟩ := Hhi.out
              exact Or.inr ⟨⟨c, by simp [hc], h⟩, Hi.out⟩
          case measure =>
            simp only [World.iterPos, k1.iter HI.out (by omega), hit]
            have := Hw1.out
            omega
      · have hnx : ∀ ty, (Instr.next (.pointer (some ⟨w.heap.size + 1, 0, none⟩)) true ty).run Try.prog wr = _ := fun ty => Lib.run_next_end_at wr (w.heap.size + 1) s pos ty hit hp
        have hres : (checkOf acc = 9 ∧ serialB okF s.data.toList = false) ∨ (checkOf acc = 0 ∧ serialB okF s.data.toList = true ∧ acc = s.data.toList.map cap) := by
          rcases hheld with h | ⟨h, h'⟩
          · rw [List.take_of_length_le (by rw [HL.out]; omega)] at h
            by_cases hq : serialB okF s.data.toList = true
            · exact Or.inr ⟨by rw [h, check_cap, (fold_some hq).2], hq, h⟩
            · have hq : serialB okF s.data.toList = false := by simpa using hq
              exact Or.inl ⟨by rw [h, check_cap, (fold_none hq).2], hq⟩
          · exact Or.inl ⟨check_high h, fold_high h'⟩
        clear hheld
        rcases hres with ⟨hc, hq⟩ | ⟨hc, hq, hacc⟩
        · have He := Lib.hid (fold_none hq)
          have ec : (checkOf acc != 0) = true := by rw [hc]; rfl
          have Hc := Lib.hid hc
          clear hq hc
          go_wp2_with (first | (go_at_call 30; refine (Try.Builder_String_any_k w.heap.size w.heap.size acc _ hI (by omega)).mono ?_; rintro e W1 ⟨rfl, _, b1, _⟩) | (go_at_call 17; refine (check_any _ _).mono ?_; rintro e W2 ⟨rfl, b2⟩))
          go_ret2
          refine ⟨?_, (hbw.trans b1).trans (b2.mono (by have := hbw.size; have := b1.size; omega))⟩
          rw [He.out.1, He.out.2]
          show Ending.returned (.tuple #[.string ⟨#[]⟩, .int .i64 (checkOf acc)]) = _
          rw [Hc.out]
        · subst hacc
          have He := Lib.hid (fold_some hq)
          have ec : (checkOf (s.data.toList.map cap) != 0) = false := by rw [hc]; rfl
          have Hc := Lib.hid hc
          clear hq hc
          go_wp2_with (first | (go_at_call 30; refine (Try.Builder_String_any_k w.heap.size w.heap.size _ _ hI (by omega)).mono ?_; rintro e W1 ⟨rfl, _, b1, _⟩) | (go_at_call 17; refine (check_any _ _).mono ?_; rintro e W2 ⟨rfl, b2⟩))
          go_ret2
          exact ⟨by rw [He.out.1, He.out.2]; rfl, (hbw.trans b1).trans (b2.mono (by have := hbw.size; have := b1.size; omega))⟩
end Go.Proofs.Ytjkdfagkdgghpaa
