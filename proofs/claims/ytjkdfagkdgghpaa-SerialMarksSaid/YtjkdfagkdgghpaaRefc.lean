/- The document's own answers for checking and marking, for every text of whatever bytes; they leave what lay there. -/
import Derived.Test.YtjkdfagkdgghpaaRefb
namespace Go.Proofs.Ytjkdfagkdgghpaa
open Go.RowKit

theorem okC_cap_same {c : UInt8} (h : okC c = true) : cap c = c := by
  unfold okC at h
  unfold cap
  rw [if_neg]
  simp at h
  omega
theorem map_cap_same {l : List UInt8} (h : ∀ c ∈ l, okC c = true) : l.map cap = l := by
  induction l with
  | nil => rfl
  | cons c l ih =>
    rw [List.map_cons, okC_cap_same (h c (List.mem_cons_self ..)), ih (fun x hx => h x (List.mem_cons_of_mem _ hx))]
theorem serial_iff (l : List UInt8) : serialB okC l = true ↔ serialB okF l = true ∧ l.map cap = l := by
  constructor
  · intro h
    have e := map_cap_same (serial_all h)
    exact ⟨by rw [← serial_cap, e]; exact h, e⟩
  · rintro ⟨h, e⟩
    rw [← serial_cap, e] at h
    exact h
theorem bytes_same (l : List UInt8) (s : ByteArray) : (⟨l.toArray⟩ : ByteArray) = s ↔ l = s.data.toList := by
  constructor
  · rintro rfl; simp
  · rintro rfl; simp

set_option maxHeartbeats 1000000 in
theorem rcheck_any (s : ByteArray) (w : World) : Calls Try.prog 18 #[.string s] w fun e w' => e = .returned (.int .i64 (checkOf s.data.toList)) ∧ Below w.heap.size w w' := by
  by_cases h1 : serialB okF s.data.toList = true
  · have hf := fold_some h1
    have e0 : (foldE s.data.toList != 0) = false := by rw [hf.2]; rfl
    by_cases h2 : s.data.toList.map cap = s.data.toList
    · have hc : checkOf s.data.toList = 0 := by unfold checkOf; rw [(serial_iff _).2 ⟨h1, h2⟩]; rfl
      have hb : (⟨(foldL s.data.toList).toArray⟩ : ByteArray) = s := (bytes_same _ _).2 (by rw [hf.1, h2])
      have Hc := Lib.hid hc
      clear h1 h2 hf hc
      go_enter Try.func18, Try.ntmps18
      go_wp2_with (go_at_call 14; refine (rfold_any _ _).mono ?_; rintro e w' ⟨rfl, b1⟩)
      go_ret
      exact ⟨by rw [Hc.out]; rfl, b1⟩
    · have hc : checkOf s.data.toList = 9 := by unfold checkOf; rw [if_neg (fun h => h2 ((serial_iff _).1 h).2)]
      have hb : (foldL s.data.toList == s.toList) = false := by
        rw [ByteArray.toList_eq, beq_eq_false_iff_ne]
        exact fun e => h2 (by rw [← hf.1]; exact e)
      have Hc := Lib.hid hc
      clear h1 h2 hf hc
      go_enter Try.func18, Try.ntmps18
      go_wp2_with (go_at_call 14; refine (rfold_any _ _).mono ?_; rintro e w' ⟨rfl, b1⟩)
      go_ret
      exact ⟨by rw [Hc.out]; rfl, b1⟩
  · have h1 : serialB okF s.data.toList = false := by simpa using h1
    have hf := fold_none h1
    have e0 : (foldE s.data.toList != 0) = true := by rw [hf.2]; rfl
    have hc : checkOf s.data.toList = 9 := by unfold checkOf; rw [if_neg (fun h => by rw [((serial_iff _).1 h).1] at h1; cases h1)]
    have Hc := Lib.hid hc
    clear h1 hf hc
    go_enter Try.func18, Try.ntmps18
    go_wp2_with (go_at_call 14; refine (rfold_any _ _).mono ?_; rintro e w' ⟨rfl, b1⟩)
    go_ret
    exact ⟨by rw [Hc.out]; rfl, b1⟩

/-- The second search of the document's mark ends at the one place that the plain words name. -/
theorem only_one (n : Int) (_h0 : 0 ≤ n) (_h1 : n < 37) (k : Nat) (hk : k < 37) : (n + (k : Int)) % 37 = 1 ↔ (k : Int) = (38 - n) % 37 := by omega

set_option maxHeartbeats 2000000 in
theorem rmark_any (s : ByteArray) (w : World) : Calls Try.prog 16 #[.string s] w fun e w' => e = .returned (.tuple #[.int .i32 (markR s.data.toList), .int .i64 (checkOf s.data.toList)]) ∧ Below w.heap.size w w' := by
  have hlen : s.data.toList.length = s.size := by rw [Array.length_toList]; rfl
  by_cases hq : serialB okC s.data.toList = true
  · have hc : checkOf s.data.toList = 0 := by unfold checkOf; rw [hq]; rfl
    have ec : (checkOf s.data.toList != 0) = false := by rw [hc]; rfl
    have hm : markR s.data.toList = symAt ((38 - numOf 0 s.data.toList) % 37) := by unfold markR; rw [hq]; rfl
    have hs16 : s.size ≤ 16 := by
      unfold serialB at hq
      simp at hq
      exact hq.1
    have Hc := Lib.hid hc
    have Hm := Lib.hid hm
    have Ha := Lib.hid (serial_all hq)
    have HL := Lib.hid hlen
    clear hc hm hq hlen
    go_enter Try.func16, Try.ntmps16
    go_wp2_with (go_at_call 18; refine (rcheck_any _ _).mono ?_; rintro e w1 ⟨rfl, b1⟩)
    go_loop [4, 5] (fun v i => ∃ k : Nat, k ≤ s.size ∧ i = .int .i64 k ∧ v = .int .i64 (numOf 0 (s.data.toList.take k))) (fun _ i => s.size - (intOf i).toNat)
    case atStart => exact ⟨0, by omega, rfl, rfl⟩
    case round =>
      obtain ⟨k, hk, rfl, rfl⟩ := hrel
      have hbd := numOf_bd (s.data.toList.take k)
      by_cases hlt : k < s.size
      · have hmem : s[k]'hlt ∈ s.data.toList := by rw [take_drop_at s k hlt]; simp
        have hok := Ha.out _ hmem
        have hb8 : (s[k]'hlt).toNat < 256 := (s[k]'hlt).toNat_lt
        have Hns := Lib.hid (numOf_snoc 0 (s.data.toList.take k) (s[k]'hlt))
        have Hts := Lib.hid (take_snoc s k hlt)
        by_cases h45 : (s[k]'hlt).toNat = 45
        · have e3 : (((s[k]'hlt).toNat : Int) != 45) = false := by simp [h45]
          have H45 := Lib.hid h45
          clear hmem h45 hok
          go_wp2
          go_round
          case rel => exact ⟨k + 1, by omega, by go_num, by rw [Hts.out, Hns.out, if_pos H45.out]⟩
          case measure => simp [intOf]; omega
        · have e3 : (((s[k]'hlt).toNat : Int) != 45) = true := by rw [bne_iff_ne]; omega
          obtain ⟨hv0, hv1⟩ := value_okC hok h45
          have H45 := Lib.hid h45
          clear hmem h45 hok
          go_wp2_with (go_at_call 11; refine (rvalue_any _ _).mono ?_; rintro e w' ⟨rfl, rfl⟩)
          go_round
          case rel => exact ⟨k + 1, by omega, by go_num, by rw [Hts.out, Hns.out, if_neg H45.out, Int.mul_comm]⟩
          case measure => simp [intOf]; omega
      · obtain rfl : k = s.size := by omega
        have ht : s.data.toList.take s.size = s.data.toList := List.take_of_length_le (by rw [HL.out]; omega)
        rw [ht] at hbd ⊢
        generalize numOf 0 s.data.toList = n at hbd Hm ⊢
        clear ht
        go_wp2
        go_loop [7] (fun i => ∃ k : Nat, k ≤ 37 ∧ i = .int .i64 k ∧ (k : Int) ≤ (38 - n) % 37) (fun i => 37 - (intOf i).toNat)
        case atStart => exact ⟨0, by omega, rfl, by omega⟩
        case round =>
          obtain ⟨k, hk, rfl, hkv⟩ := hrel
          by_cases hlt2 : k < 37
          · have hix := sym_index (k : Int) (by omega) (by omega)
            have hsb := symAt_bd (k : Int) (by omega) (by omega)
            by_cases hq : (k : Int) = (38 - n) % 37
            · have e4 : ((n + (k : Int)) % 37 == 1) = true := by simp; exact (only_one n hbd.1 hbd.2 k hlt2).2 hq
              have Hq := Lib.hid hq
              clear hq
              go_wp2
              go_ret2
              exact ⟨by rw [Hm.out, Hc.out, ← Hq.out]; rfl, b1⟩
            · have e4 : ((n + (k : Int)) % 37 == 1) = false := by
                rw [beq_eq_false_iff_ne]
                exact fun e => hq ((only_one n hbd.1 hbd.2 k hlt2).1 e)
              have hn : ((k + 1 : Nat) : Int) ≤ (38 - n) % 37 := by omega
              have Hn := Lib.hid hn
              clear hq hn
              go_wp2
              go_round
              case rel => exact ⟨k + 1, by omega, by go_num, Hn.out⟩
              case measure => simp [intOf]; omega
          · omega
  · have hq : serialB okC s.data.toList = false := by simpa using hq
    have hc : checkOf s.data.toList = 9 := by unfold checkOf; rw [hq]; rfl
    have ec : (checkOf s.data.toList != 0) = true := by rw [hc]; rfl
    have hm : markR s.data.toList = 0 := by unfold markR; rw [hq]; rfl
    have Hm := Lib.hid hm
    have Hc := Lib.hid hc
    clear hc hm hq hlen
    go_enter Try.func16, Try.ntmps16
    go_wp2_with (go_at_call 18; refine (rcheck_any _ _).mono ?_; rintro e w1 ⟨rfl, b1⟩)
    go_ret2
    exact ⟨by rw [Hm.out, Hc.out]; rfl, b1⟩
end Go.Proofs.Ytjkdfagkdgghpaa
