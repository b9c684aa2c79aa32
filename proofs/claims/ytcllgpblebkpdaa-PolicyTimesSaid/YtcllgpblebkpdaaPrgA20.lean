/- The program's Check, Time, Pass, the two bound methods of an item's terms, and sort.Search of Go's library: in every world. -/
import Derived.Test.YtcllgpblebkpdaaRefA20
import Derived.Shelf.Abstract
namespace Go.Proofs.Ytcllgpblebkpdaa
open Go.RowKit Go.Shelf

theorem pticks20_any (t : Int) (w : World) : Calls Try.prog 23 #[.int .i64 t] w fun e w' => e = .returned (.bool (timeB t)) ∧ w = w' := by
  have hs : (decide (0 ≤ t) = false ∧ timeB t = false) ∨ (decide (0 ≤ t) = true ∧ decide (t ≤ 1000000) = timeB t) := by
    unfold timeB
    by_cases h : 0 ≤ t
    · refine Or.inr ⟨decide_eq_true h, ?_⟩
      rw [Bool.eq_iff_iff, decide_eq_true_iff, decide_eq_true_iff]
      exact ⟨fun q => ⟨h, q⟩, fun q => q.2⟩
    · exact Or.inl ⟨decide_eq_false h, decide_eq_false fun q => h q.1⟩
  generalize timeB t = b at *
  rcases hs with ⟨d1, rfl⟩ | ⟨d1, d2⟩
  · go_enter Try.func23, Try.ntmps23
    go_wp2
    go_ret
    exact ⟨rfl, rfl⟩
  · cases b
    all_goals
      go_enter Try.func23, Try.ntmps23
      go_wp2
      go_ret
      exact ⟨rfl, rfl⟩
def idB20 (n : Int) : Bool := decide (1 ≤ n ∧ n ≤ 999999)
theorem pid20_any (t : Int) (w : World) : Calls Try.prog 24 #[.int .i64 t] w fun e w' => e = .returned (.bool (idB20 t)) ∧ w = w' := by
  have hs : (decide (1 ≤ t) = false ∧ idB20 t = false) ∨ (decide (1 ≤ t) = true ∧ decide (t ≤ 999999) = idB20 t) := by
    unfold idB20
    by_cases h : 1 ≤ t
    · refine Or.inr ⟨decide_eq_true h, ?_⟩
      rw [Bool.eq_iff_iff, decide_eq_true_iff, decide_eq_true_iff]
      exact ⟨fun q => ⟨h, q⟩, fun q => q.2⟩
    · exact Or.inl ⟨decide_eq_false h, decide_eq_false fun q => h q.1⟩
  generalize idB20 t = b at *
  rcases hs with ⟨d1, rfl⟩ | ⟨d1, d2⟩
  · go_enter Try.func24, Try.ntmps24
    go_wp2
    go_ret
    exact ⟨rfl, rfl⟩
  · cases b
    all_goals
      go_enter Try.func24, Try.ntmps24
      go_wp2
      go_ret
      exact ⟨rfl, rfl⟩
theorem ptime20_any (t : Int) (w : World) : Calls Try.prog 12 #[.int .i64 t] w fun e w' => e = .returned (.bool (timeB t)) ∧ w = w' := by
  have H := Lib.hid (pticks20_any t w)
  go_enter Try.func12, Try.ntmps12
  go_wp2_with (go_at_call 23; refine H.out.mono ?_; rintro e w1 ⟨rfl, rfl⟩)
  go_ret
  exact ⟨rfl, rfl⟩
set_option maxHeartbeats 4000000 in
theorem pitem20_any (i : Item20) (w : World) : Calls Try.prog 10 #[itemVal i] w fun e w' => e = .returned (.int .i64 (itemE i)) ∧ Below w.heap.size w w' := by
  have hs : (idB20 i.id = true ∧ idB20 i.ven = true ∧ timeB i.win = true ∧ timeB i.war = true ∧ itemE i = 0) ∨ (itemE i = 2 ∧ (idB20 i.id = false ∨ (idB20 i.id = true ∧ idB20 i.ven = false) ∨ (idB20 i.id = true ∧ idB20 i.ven = true ∧ timeB i.win = false) ∨ (idB20 i.id = true ∧ idB20 i.ven = true ∧ timeB i.win = true ∧ timeB i.war = false))) := by
    unfold idB20 timeB
    by_cases hok : ItemOk i
    · left
      have h := item_yes hok
      unfold ItemOk at hok
      simp only [decide_eq_true_eq]
      exact ⟨⟨hok.1, hok.2.1⟩, ⟨hok.2.2.1, hok.2.2.2.1⟩, hok.2.2.2.2.1, hok.2.2.2.2.2, h⟩
    · right
      refine ⟨item_no hok, ?_⟩
      unfold ItemOk at hok
      simp only [decide_eq_true_eq, decide_eq_false_iff_not]
      by_cases q1 : 1 ≤ i.id ∧ i.id ≤ 999999
      · by_cases q2 : 1 ≤ i.ven ∧ i.ven ≤ 999999
        · by_cases q3 : TimeOk i.win
          · exact Or.inr (Or.inr (Or.inr ⟨q1, q2, q3, fun q4 => hok ⟨q1.1, q1.2, q2.1, q2.2, q3, q4⟩⟩))
          · exact Or.inr (Or.inr (Or.inl ⟨q1, q2, q3⟩))
        · exact Or.inr (Or.inl ⟨q1, q2⟩)
      · exact Or.inl q1
  obtain ⟨ii, iv, iw, ir⟩ := i
  dsimp only at hs ⊢
  have H1 : Hid (∀ W, Calls Try.prog 24 #[.int .i64 ii] W fun e w' => e = .returned (.bool (idB20 ii)) ∧ W = w') := Lib.hid fun W => pid20_any _ W
  have H2 : Hid (∀ W, Calls Try.prog 24 #[.int .i64 iv] W fun e w' => e = .returned (.bool (idB20 iv)) ∧ W = w') := Lib.hid fun W => pid20_any _ W
  have H3 : Hid (∀ W, Calls Try.prog 23 #[.int .i64 iw] W fun e w' => e = .returned (.bool (timeB iw)) ∧ W = w') := Lib.hid fun W => pticks20_any _ W
  have H4 : Hid (∀ W, Calls Try.prog 23 #[.int .i64 ir] W fun e w' => e = .returned (.bool (timeB ir)) ∧ W = w') := Lib.hid fun W => pticks20_any _ W
  have BX := Lib.hid (bx20_start w ⟨ii, iv, iw, ir⟩)
  generalize itemE ⟨ii, iv, iw, ir⟩ = E at *
  generalize idB20 ii = x1 at *
  generalize idB20 iv = x2 at *
  generalize timeB iw = x3 at *
  generalize timeB ir = x4 at *
  obtain ⟨c0, c1, c2, c3⟩ := BX.out.cells
  dsimp only at c0 c1 c2 c3
  rcases hs with ⟨rfl, rfl, rfl, rfl, hE⟩ | ⟨hE, rfl | ⟨rfl, rfl⟩ | ⟨rfl, rfl, rfl⟩ | ⟨rfl, rfl, rfl, rfl⟩⟩
  all_goals
    have HE := Lib.hid hE
    clear hE
    go_enter Try.func10, Try.ntmps10
    go_wp2_with (first
      | (go_at_call 24; refine (H1.out _).mono ?_; rintro e w1 ⟨rfl, rfl⟩; clear H1)
      | (go_at_call 24; refine (H2.out _).mono ?_; rintro e w1 ⟨rfl, rfl⟩; clear H2)
      | (go_at_call 23; refine (H3.out _).mono ?_; rintro e w1 ⟨rfl, rfl⟩; clear H3)
      | (go_at_call 23; refine (H4.out _).mono ?_; rintro e w1 ⟨rfl, rfl⟩; clear H4))
    go_ret
    exact ⟨by rw [HE.out]; rfl, BX.out.below⟩
/-- A bound method of the terms. -/
theorem pwin20_any (i : Item20) (d : Int) (w : World) : Calls Try.prog 20 #[itemVal i, .int .i64 d] w fun e w' => e = .returned (.bool (decide (d ≤ i.win))) ∧ Below w.heap.size w w' := by
  have h0 := heap_alloc_new w (.cells #[.int .i64 i.id, .int .i64 i.ven, .int .i64 i.win, .int .i64 i.war] 41)
  have HB := Lib.hid (box20 w (.cells #[.int .i64 i.id, .int .i64 i.ven, .int .i64 i.win, .int .i64 i.war] 41))
  have c2 := cell_of (j := 2) h0 rfl
  clear h0
  obtain ⟨ii, iv, iw, ir⟩ := i
  dsimp only at *
  go_enter Try.func20, Try.ntmps20
  go_wp2
  go_ret
  exact ⟨rfl, HB.out⟩
theorem pwar20_any (i : Item20) (d : Int) (w : World) : Calls Try.prog 21 #[itemVal i, .int .i64 d] w fun e w' => e = .returned (.bool (decide (d ≤ i.war))) ∧ Below w.heap.size w w' := by
  have h0 := heap_alloc_new w (.cells #[.int .i64 i.id, .int .i64 i.ven, .int .i64 i.win, .int .i64 i.war] 41)
  have HB := Lib.hid (box20 w (.cells #[.int .i64 i.id, .int .i64 i.ven, .int .i64 i.win, .int .i64 i.war] 41))
  have c3 := cell_of (j := 3) h0 rfl
  clear h0
  obtain ⟨ii, iv, iw, ir⟩ := i
  dsimp only at *
  go_enter Try.func21, Try.ntmps21
  go_wp2
  go_ret
  exact ⟨rfl, HB.out⟩
set_option maxHeartbeats 4000000 in
/-- sort.Search of a function that is false up to a place M, and true from there on. -/
theorem psearch20_any (g : Nat) (cb : Array Value) (n M : Nat) (p : Nat → Bool) (w : World) (eg : ∀ args w, (callFunc g args).run Try.prog w = .ok (.enter g args) w) (hsz : n < 4611686018427387904)
    (hf : ∀ W (i : Nat), Below w.heap.size w W → i < n → Calls Try.prog g (#[.int .i64 i] ++ cb) W fun e w' => e = .returned (.bool (p i)) ∧ Below W.heap.size W w')
    (hM : M ≤ n) (h1 : ∀ i, i < M → p i = false) (h2 : ∀ i, M ≤ i → i < n → p i = true) :
    Calls Try.prog 28 #[.int .i64 n, .func (.func g) #[] cb] w fun e w' => e = .returned (.int .i64 M) ∧ Below w.heap.size w w' := by
  have HF := Lib.hid hf
  have HB0 := Lib.hid (Below.refl w.heap.size w)
  have P1 := Lib.hid h1
  have P2 := Lib.hid h2
  clear hf h1 h2
  go_enter Try.func28, Try.ntmps28
  go_wp2
  go_loopw [5, 6] (fun s5 s6 wr => ∃ lo hi : Nat, s5 = .int .i64 lo ∧ s6 = .int .i64 hi ∧ lo ≤ M ∧ M ≤ hi ∧ hi ≤ n ∧ Hid (Below w.heap.size w wr)) (fun a b _ => (intOf b).toNat - (intOf a).toNat)
  case atStart => exact ⟨0, n, rfl, rfl, by omega, hM, Nat.le_refl _, HB0⟩
  case round =>
    clear HB0
    obtain ⟨lo, hi, rfl, rfl, hl, hh, hn, HB⟩ := hrel
    by_cases hlt : lo < hi
    · have hc := HF.out wr ((lo + hi) / 2) HB.out (by omega)
      obtain ⟨m, hm⟩ : ∃ m : Nat, (lo + hi) / 2 = m := ⟨_, rfl⟩
      have hm2 : ((lo : Int) + (hi : Int)) / 2 = (m : Int) := by omega
      rw [hm] at hc
      have b1 : lo ≤ m := by omega
      have b2 : m < hi := by omega
      clear hm
      cases hp : p m with
      | false =>
        have hlow : m < M := by
          rcases Nat.lt_or_ge m M with z | z
          · exact z
          · rw [P2.out m z (by omega)] at hp; cases hp
        rw [hp] at hc
        have HC := Lib.hid hc
        clear hc hp
        go_wp2_with (go_at_fn g; refine HC.out.mono ?_; rintro e w2 ⟨rfl, hb⟩; have HB2 := Lib.hid (HB.out.trans (hb.mono HB.out.size)); clear hb)
        go_roundw
        case rel => exact ⟨m + 1, hi, by first | rfl | go_num, rfl, by omega, hh, hn, HB2⟩
        case measure => simp [intOf]; omega
      | true =>
        have hup : M ≤ m := by
          rcases Nat.lt_or_ge m M with z | z
          · rw [P1.out m z] at hp; cases hp
          · exact z
        rw [hp] at hc
        have HC := Lib.hid hc
        clear hc hp
        go_wp2_with (go_at_fn g; refine HC.out.mono ?_; rintro e w2 ⟨rfl, hb⟩; have HB2 := Lib.hid (HB.out.trans (hb.mono HB.out.size)); clear hb)
        go_roundw
        case rel => exact ⟨lo, m, rfl, by first | rfl | go_num, hl, hup, by omega, HB2⟩
        case measure => simp [intOf]; omega
    · obtain rfl : M = lo := by omega
      go_wp2
      go_ret
      exact ⟨rfl, HB.out⟩
end Go.Proofs.Ytcllgpblebkpdaa
