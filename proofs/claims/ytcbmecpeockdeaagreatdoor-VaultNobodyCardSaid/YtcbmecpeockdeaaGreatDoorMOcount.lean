/- The program's count: the length of a text, or the number of a list's elements, at a place. -/
import Derived.Test.YtcbmecpeockdeaaGreatDoorMRow5
namespace Go.Proofs.YtcbmecpeockdeaaGreatDoor
open Go.RowKit

/-- What count answers: the error, and, where there is none, the number. -/
def cntE (s : List UInt8) (p m : Int) : Int := if m < 0 then 2 else if getE s p 2 = 0 then (if m < getV s p 2 then 3 else 0) else getE s p 2
def cntV (s : List UInt8) (p m : Int) : Int := if cntE s p m = 0 then getV s p 2 else 0
def cntT (s : List UInt8) (p m : Int) : Int := if cntE s p m = 0 then p + 2 else 0
theorem get_none {s : List UInt8} {p x : Int} (h : getE s p x ≠ 0) : getV s p x = 0 ∧ getT s p x = 0 := by unfold getV getT; rw [if_neg h, if_neg h]; exact ⟨rfl, rfl⟩

/-- Behind a call: a block of two cells that was laid ahead of it, another one laid behind it. -/
theorem pair_two {w w1 : World} {T : TypeId} {x y : Value} (b1 : Below (w.alloc (.cells #[x, y] T)).heap.size (w.alloc (.cells #[x, y] T)) w1) (o : Obj) :
    (w1.alloc o).cell? ⟨w.heap.size, 0, none⟩ = some x ∧ (w1.alloc o).cell? ⟨w.heap.size, 1, none⟩ = some y ∧ (w1.alloc o).frozen? ⟨w.heap.size, 0, none⟩ = false ∧ (w1.alloc o).frozen? ⟨w.heap.size, 1, none⟩ = false ∧ Hid (Below w.heap.size w (w1.alloc o)) ∧ Hid ((w1.alloc o).heap[w.heap.size]? = some (.cells #[x, y] T (0, 0))) := by
  have hg : (w1.alloc o).heap[w.heap.size]? = some (.cells #[x, y] T (0, 0)) := by
    have h1 := old_obj b1 (heap_alloc_new w (.cells #[x, y] T))
    exact (Lib.alloc_old w1 o _ (obj_lt h1)).trans h1
  obtain ⟨c0, c1, f0, f1⟩ := two_cells hg
  have h0 : Below w.heap.size w (w.alloc (.cells #[x, y] T)) := (Below.refl _ w).alloc (Nat.le_refl _) _
  have h2 := h0.trans (b1.mono h0.size)
  exact ⟨c0, c1, f0, f1, Lib.hid (h2.alloc h2.size _), Lib.hid hg⟩

end Go.Proofs.YtcbmecpeockdeaaGreatDoor
namespace Go.Proofs.YtcbmecpeockdeaaGreatDoor
open Go.RowKit

theorem oput_any (n x : Int) (hn : n ≤ 9223372036854775807) (w : World) :
    Calls Tryz.prog 56 #[.int .i64 n, .int .i64 x] w fun e w' => ∃ t : ByteArray, e = .returned (.tuple #[.string t, .int .i64 (putE n x)]) ∧ Hid (t.data.toList = putL n x) ∧ Below w.heap.size w w' := by
  have HW : Hid (∀ v, Calls Tryz.prog 77 #[.int .i64 x] v fun e w' => e = .returned (.bool (decide (wideW x))) ∧ v = w') := Lib.hid fun v => oiswidth_any x v
  by_cases hw : wideW x
  · rw [decide_eq_true hw] at HW
    have HE := Lib.hid (oenc_lit n x hw hn)
    clear hw
    go_enter Tryz.func56, Tryz.ntmps56
    go_wp2_with (first | (go_at_call 77; refine (HW.out _).mono ?_; rintro e w1 ⟨rfl, rfl⟩) | (go_at_call 78; refine (HE.out _ _).mono ?_; rintro e w1 ⟨t, rfl, ht, hb⟩))
    go_ret2
    exact ⟨t, rfl, ht, hb⟩
  · rw [decide_eq_false hw] at HW
    have he : putE n x = 2 := by unfold putE; rw [if_neg hw]
    have hl : putL n x = [] := by unfold putL; rw [if_neg (by omega)]
    rw [he, hl]
    clear he hl
    go_enter Tryz.func56, Tryz.ntmps56
    go_wp2_with (go_at_call 77; refine (HW.out _).mono ?_; rintro e w1 ⟨rfl, rfl⟩)
    go_ret2
    exact ⟨_, rfl, Lib.hid rfl, Below.refl _ _⟩

theorem len_put {n : Nat} (h : n ≤ 65535) : putE (n : Int) 2 = 0 ∧ putL (n : Int) 2 = be 2 n := by
  have e : putE (n : Int) 2 = 0 := by unfold putE; rw [if_pos (by unfold wideW; omega), if_pos (by rw [show (2 : Int).toNat = 2 from rfl]; omega)]
  exact ⟨e, by unfold putL; rw [if_pos e]; rfl⟩
theorem two_wide : wideW 2 := by unfold wideW; omega

theorem clone_any (s : ByteArray) (hs : s.size ≤ 281474976710656) (w : World) :
    Calls Tryz.prog 29 #[.string s] w fun e w' => e = .returned (.string s) ∧ Below w.heap.size w w' := by
  have HC : Hid (∀ v, Calls Tryz.prog 48 #[.string s] v fun e w' => e = .returned (.string s) ∧ Below v.heap.size v w') := Lib.hid fun v => Tryz.stringslite_Clone s v hs
  go_enter Tryz.func29, Tryz.ntmps29
  go_wp2_with (go_at_call 48; refine (HC.out _).mono ?_; rintro e w1 ⟨rfl, hb⟩)
  go_ret
  exact ⟨rfl, hb⟩

theorem take_cnt {s : List UInt8} {p m : Int} : takeE s p m = if cntE s p m = 0 then (if s.length < p + 2 + getV s p 2 then 4 else 0) else cntE s p m := by
  unfold takeE cntE
  by_cases h0 : m < 0
  · rw [if_neg (by omega), if_pos h0, if_neg (by omega)]
  · rw [if_neg h0]
    by_cases hg : getE s p 2 = 0
    · obtain ⟨_, f0, f1, _⟩ := get_fine hg
      rw [if_pos hg, if_pos hg, if_pos ⟨by omega, f0, by omega⟩]
      by_cases h1 : m < getV s p 2
      · rw [if_pos h1, if_pos h1, if_neg (by omega)]
      · rw [if_neg h1, if_neg h1, if_pos rfl]
    · rw [if_neg hg, if_neg hg, if_neg hg]
      by_cases h2 : 0 ≤ m ∧ 0 ≤ p ∧ p ≤ s.length
      · rw [if_pos h2]
      · rw [if_neg h2]
        unfold getE
        rw [if_neg (fun h => h2 ⟨by omega, h.2⟩)]

end Go.Proofs.YtcbmecpeockdeaaGreatDoor
