/- The document's own answers for checking and marking, for every text of whatever bytes; they leave what lay there. -/
import Derived.Test.YtnbmccfaomhppaaRefb
namespace Go.Proofs.Ytnbmccfaomhppaa
open Go.RowKit

theorem okC_cap_same {c : UInt8} (h : okC c = true) : cap c = c := by
  unfold okC at h
  unfold cap
  rw [if_neg]
  simp at h
  omega
theorem map_cap_same {l : List UInt8} (h : ∀ c ∈ l, okC c = true) : l.map cap = l := by
  induction l with
  | nil => rfl
  | cons c l ih =>
    rw [List.map_cons, okC_cap_same (h c (List.mem_cons_self ..)), ih (fun x hx => h x (List.mem_cons_of_mem _ hx))]
theorem serial_iff (l : List UInt8) : serialB okC l = true ↔ serialB okF l = true ∧ l.map cap = l := by
  constructor
  · intro h
    have e := map_cap_same (serial_all h)
    exact ⟨by rw [← serial_cap, e]; exact h, e⟩
  · rintro ⟨h, e⟩
    rw [← serial_cap, e] at h
    exact h
theorem bytes_same (l : List UInt8) (s : ByteArray) : (⟨l.toArray⟩ : ByteArray) = s ↔ l = s.data.toList := by
  constructor
  · rintro rfl; simp
  · rintro rfl; simp

set_option maxHeartbeats 1000000 in
theorem rcheck_any (s : ByteArray) (w : World) : Calls Try.prog 33 #[.string s] w fun e w' => e = .returned (.int .i64 (checkOf s.data.toList)) ∧ Below w.heap.size w w' := by
  by_cases h1 : serialB okF s.data.toList = true
  · have hf := fold_some h1
    have e0 : (foldE s.data.toList != 0) = false := by rw [hf.2]; rfl
    by_cases h2 : s.data.toList.map cap = s.data.toList
    · have hc : checkOf s.data.toList = 0 := by unfold checkOf; rw [(serial_iff _).2 ⟨h1, h2⟩]; rfl
      have hb : (⟨(foldL s.data.toList).toArray⟩ : ByteArray) = s := (bytes_same _ _).2 (by rw [hf.1, h2])
      have Hc := Lib.hid hc
      clear h1 h2 hf hc
      go_enter Try.func33, Try.ntmps33
      go_wp2_with (go_at_call 53; refine (rfold_any _ _).mono ?_; rintro e w' ⟨rfl, b1⟩)
      go_ret
      exact ⟨by rw [Hc.out]; rfl, b1⟩
    · have hc : checkOf s.data.toList = 9 := by unfold checkOf; rw [if_neg (fun h => h2 ((serial_iff _).1 h).2)]
      have hb : (foldL s.data.toList == s.toList) = false := by
        rw [ByteArray.toList_eq, beq_eq_false_iff_ne]
        exact fun e => h2 (by rw [← hf.1]; exact e)
      have Hc := Lib.hid hc
      clear h1 h2 hf hc
      go_enter Try.func33, Try.ntmps33
      go_wp2_with (go_at_call 53; refine (rfold_any _ _).mono ?_; rintro e w' ⟨rfl, b1⟩)
      go_ret
      exact ⟨by rw [Hc.out]; rfl, b1⟩
  · have h1 : serialB okF s.data.toList = false := by simpa using h1
    have hf := fold_none h1
    have e0 : (foldE s.data.toList != 0) = true := by rw [hf.2]; rfl
    have hc : checkOf s.data.toList = 9 := by unfold checkOf; rw [if_neg (fun h => by rw [((serial_iff _).1 h).1] at h1; cases h1)]
    have Hc := Lib.hid hc
    clear h1 hf hc
    go_enter Try.func33, Try.ntmps33
    go_wp2_with (go_at_call 53; refine (rfold_any _ _).mono ?_; rintro e w' ⟨rfl, b1⟩)
    go_ret
    exact ⟨by rw [Hc.out]; rfl, b1⟩

/-- The second search of the document's mark ends at the one place that the plain words name. -/
theorem only_one (n : Int) (_h0 : 0 ≤ n) (_h1 : n < 37) (k : Nat) (hk : k < 37) : (n + (k : Int)) % 37 = 1 ↔ (k : Int) = (38 - n) % 37 := by omega

end Go.Proofs.Ytnbmccfaomhppaa
