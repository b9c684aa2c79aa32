/- The library's stable sort, of a row of places, by a function that compares keys. -/
import Derived.Test.YtmdonhkdkapjpaaHalves
namespace Go.Proofs.Ytmdonhkdkapjpaa
open Go.RowKit

/-- What holds of a row all the way through: the places that it held, those of the same key in their order. -/
structure Kept (key : Int → Int) (B g n cap : Nat) (w0 : World) (d f : Nat → Int) (w : World) : Prop where
  st : St key f 0 n
  sub : Sub d f 0 n
  row : RowOf B g n cap f w
  old : Below B w0 w
theorem Kept.next {key : Int → Int} {B g n cap : Nat} {w0 : World} {d f e : Nat → Int} {w w' : World} {a b : Nat} (h : Kept key B g n cap w0 d f w) (hs : Sub f e a b) (ho : So key e a b) (hb : b ≤ n) (hr : RowOf B g n cap e w') (hw : Below B w0 w') : Kept key B g n cap w0 d e w' :=
  ⟨h.st.around hs (by omega) hb ho.st, h.sub.trans (hs.wide (by omega) hb), hr, hw⟩

set_option maxRecDepth 100000 in
set_option maxHeartbeats 4000000 in
theorem stable_any (key : Int → Int) (B g n cap : Nat) (p : Addr) (d : Nat → Int) (w0 w : World) (h : RowOf B g n cap d w) (hw : Below B w0 w) (hn : n ≤ 1152921504606846976) (hv : Vals d n) (hst : St key d 0 n) (hC : Cmps key B w0 n p) :
    Calls Try.prog 43 #[.slice (some ⟨g, 0, none⟩) n cap, .int .i64 n, .func (.func 36) #[] #[.pointer (some p)]] w fun e w' => e = .returned (.tuple #[]) ∧ ∃ f, So key f 0 n ∧ Sub d f 0 n ∧ RowOf B g n cap f w' ∧ Below B w0 w' := by
  have HI : Hid (∀ (a b : Nat) (A C : Int) (f : Nat → Int) (v : World), A = a → C = b → a ≤ b → b ≤ n → Kept key B g n cap w0 d f v → Calls Try.prog 49 #[.slice (some ⟨g, 0, none⟩) n cap, .int .i64 A, .int .i64 C, .func (.func 36) #[] #[.pointer (some p)]] v fun e w' => e = .returned (.tuple #[]) ∧ ∃ e, So key e a b ∧ Sub f e a b ∧ Kept key B g n cap w0 d e w') :=
    Lib.hid fun a b A C f v hA hB hab hb hk => by
      subst hA; subst hB
      refine (insert_any key B g n cap a b p f w0 v hk.row hk.old (by omega) hab hb (hv.sub hk.sub (Nat.le_refl _)) (hk.st.sub (by omega) hb) hC).mono ?_
      rintro e w' ⟨rfl, f1, h1, h2, h3, h4⟩
      exact ⟨rfl, f1, h1, h2, hk.next h2 h1 hb h3 h4⟩
  have HM : Hid (∀ (a m b : Nat) (A M C : Int) (f : Nat → Int) (v : World), A = a → M = m → C = b → a < m → m < b → b ≤ n → So key f a m → So key f m b → Kept key B g n cap w0 d f v → Calls Try.prog 50 #[.slice (some ⟨g, 0, none⟩) n cap, .int .i64 A, .int .i64 M, .int .i64 C, .func (.func 36) #[] #[.pointer (some p)]] v fun e w' => e = .returned (.tuple #[]) ∧ ∃ e, So key e a b ∧ Sub f e a b ∧ Kept key B g n cap w0 d e w') :=
    Lib.hid fun a m b A M C f v hA hM hB ham hmb hb hl hr hk => by
      refine (merges key B g n cap p w0 hn hC (b - a) a m b A M C f v (Nat.le_refl _) hA hM hB ham hmb hb hk.row hk.old (hv.sub hk.sub (Nat.le_refl _)) hl hr (hk.st.sub (by omega) hb)).mono ?_
      rintro e w' ⟨rfl, f1, h1, h2, h3, h4⟩
      exact ⟨rfl, f1, h1, h2, hk.next h2 h1 hb h3 h4⟩
  have HK : Hid (Kept key B g n cap w0 d d w) := ⟨hst, Sub.refl _ _ _, h, hw⟩
  clear h hw hst hC hv
  go_enter Try.func43, Try.ntmps43
  go_wp2
  go_loopw [7, 8] (fun a' b' wr => ∃ (t a : Nat) (f : Nat → Int), a' = .int .i64 a ∧ b' = .int .i64 ((a : Int) + 20) ∧ a ≤ n ∧ Hid (a = t * 20) ∧ Hid (Blocks key f 20 a) ∧ Hid (Kept key B g n cap w0 d f wr)) (fun _ b' _ => n + 20 - (intOf b').toNat)
  case atStart => exact ⟨0, 0, d, rfl, rfl, by omega, Lib.hid (by omega), Lib.hid (blocks_none _ _ _), HK⟩
  case round =>
    obtain ⟨t, a, f, rfl, rfl, ha, ht, hbk, hk⟩ := hrel
    by_cases hle : a + 20 ≤ n
    · have e1 : decide ((a : Int) + 20 ≤ (n : Int)) = true := decide_eq_true (by omega)
      have HCC := Lib.hid (HI.out a (a + 20) a ((a : Int) + 20) f wr rfl (by omega) (by omega) hle hk.out)
      go_wp2_with (go_at_call 49; refine HCC.out.mono ?_; rintro e w1 ⟨rfl, f1, hf1, hf2, hk1⟩)
      go_roundw
      case rel => exact ⟨t + 1, a + 20, f1, by go_num, by go_num, hle, Lib.hid (by have := ht.out; omega), Lib.hid (blocks_next hbk.out hf2 hf1 ht.out (by omega)), Lib.hid hk1⟩
      case measure => simp [intOf]; omega
    · have e1 : decide ((a : Int) + 20 ≤ (n : Int)) = false := decide_eq_false (by omega)
      have HCC := Lib.hid (HI.out a n a n f wr rfl rfl ha (Nat.le_refl _) hk.out)
      go_wp2_with (go_at_call 49; refine HCC.out.mono ?_; rintro e w1 ⟨rfl, f1, hf1, hf2, hk1⟩)
      have HB0 : Hid (Blocks key f1 20 n) := Lib.hid (blocks_next hbk.out hf2 hf1 ht.out (by omega))
      have HK1 := Lib.hid hk1
      clear hf1 hf2 hk1 hbk hk ht
      go_loopw [6] (fun s' wr2 => ∃ (s : Nat) (f2 : Nat → Int), s' = .int .i64 s ∧ 1 ≤ s ∧ s ≤ 2 * n + 20 ∧ Hid (Blocks key f2 s n) ∧ Hid (Kept key B g n cap w0 d f2 wr2)) (fun s' _ => 2 * n + 20 - (intOf s').toNat)
      case atStart => exact ⟨20, f1, rfl, by omega, by omega, HB0, HK1⟩
      case round =>
        clear HB0 HK1
        obtain ⟨s, f2, rfl, hs1, hs2, hbk, hk⟩ := hrel
        by_cases hlt : s < n
        · have HL0 : Hid (Later key f2 s n 0) := Lib.hid (later_first hbk.out)
          clear hbk
          go_wp2
          go_loopw [7, 8] (fun a' b' wr3 => ∃ (t2 a2 : Nat) (f3 : Nat → Int), a' = .int .i64 a2 ∧ b' = .int .i64 ((a2 : Int) + 2 * (s : Int)) ∧ a2 ≤ n ∧ Hid (a2 = t2 * (2 * s)) ∧ Hid (Blocks key f3 (2 * s) a2) ∧ Hid (Later key f3 s n a2) ∧ Hid (Kept key B g n cap w0 d f3 wr3)) (fun _ b' _ => n + 2 * s - (intOf b').toNat)
          case atStart => exact ⟨0, 0, f2, rfl, by first | rfl | go_num, by omega, Lib.hid (by omega), Lib.hid (blocks_none _ _ _), HL0, hk⟩
          case round =>
            clear HL0 hk
            obtain ⟨t2, a2, f3, rfl, rfl, ha2, ht2, hbk, hla, hk⟩ := hrel
            by_cases hle2 : a2 + 2 * s ≤ n
            · have e2 : decide ((a2 : Int) + 2 * (s : Int) ≤ (n : Int)) = true := decide_eq_true (by omega)
              have HCC := Lib.hid (HM.out a2 (a2 + s) (a2 + 2 * s) a2 ((a2 : Int) + (s : Int)) ((a2 : Int) + 2 * (s : Int)) f3 wr rfl (by omega) (by omega) (by omega) (by omega) hle2 ((later_two hla.out ht2.out (b := a2 + s) (by omega)).1 (by omega)) ((later_two hla.out ht2.out (b := a2 + 2 * s) hle2).2 (by omega)) hk.out)
              go_wp2_with (go_at_call 50; refine HCC.out.mono ?_; rintro e w2 ⟨rfl, f4, hf3, hf4, hk2⟩)
              go_roundw
              case rel => exact ⟨t2 + 1, a2 + 2 * s, f4, by go_num, by first | rfl | go_num | (congr 1; omega), hle2, Lib.hid (by rw [Nat.add_mul, ← ht2.out]; omega), Lib.hid (blocks_next hbk.out hf4 hf3 ht2.out (by omega)), Lib.hid (later_kept hla.out hf4 (by omega)), Lib.hid hk2⟩
              case measure => simp [intOf]; omega
            · have e2 : decide ((a2 : Int) + 2 * (s : Int) ≤ (n : Int)) = false := decide_eq_false (by omega)
              by_cases hmn : a2 + s < n
              · have e3 : decide ((a2 : Int) + (s : Int) < (n : Int)) = true := decide_eq_true (by omega)
                have HCC := Lib.hid (HM.out a2 (a2 + s) n a2 ((a2 : Int) + (s : Int)) n f3 wr rfl (by omega) rfl (by omega) hmn (Nat.le_refl _) ((later_two hla.out ht2.out (b := a2 + s) (by omega)).1 (by omega)) ((later_two hla.out ht2.out (b := n) (Nat.le_refl _)).2 (by omega)) hk.out)
                go_wp2_with (go_at_call 50; refine HCC.out.mono ?_; rintro e w2 ⟨rfl, f4, hf3, hf4, hk2⟩)
                go_roundw
                case rel => exact ⟨2 * s, f4, by first | rfl | go_num | (congr 1; omega), by omega, by omega, Lib.hid (blocks_next hbk.out hf4 hf3 ht2.out (by omega)), Lib.hid hk2⟩
                case measure => simp [intOf]; omega
              · have e3 : decide ((a2 : Int) + (s : Int) < (n : Int)) = false := decide_eq_false (by omega)
                have HB1 : Hid (Blocks key f3 (2 * s) n) := Lib.hid (blocks_next hbk.out (Sub.refl f3 a2 n) ((later_two hla.out ht2.out (b := n) (Nat.le_refl _)).1 (by omega)) ht2.out (by omega))
                go_wp2_with fail
                go_roundw
                case rel => exact ⟨2 * s, f3, by first | rfl | go_num | (congr 1; omega), by omega, by omega, HB1, hk⟩
                case measure => simp [intOf]; omega
        · have HE : Hid (So key f2 0 n) := Lib.hid (blocks_all hbk.out (by omega))
          go_wp2
          go_end0
          exact ⟨rfl, f2, HE.out, hk.out.sub, hk.out.row, hk.out.old⟩

theorem sort_any (key : Int → Int) (B g n cap : Nat) (p : Addr) (d : Nat → Int) (w0 w : World) (h : RowOf B g n cap d w) (hw : Below B w0 w) (hn : n ≤ 1152921504606846976) (hv : Vals d n) (hst : St key d 0 n) (hC : Cmps key B w0 n p) :
    Calls Try.prog 35 #[.slice (some ⟨g, 0, none⟩) n cap, .func (.func 36) #[] #[.pointer (some p)]] w fun e w' => e = .returned (.tuple #[]) ∧ ∃ f, So key f 0 n ∧ Sub d f 0 n ∧ RowOf B g n cap f w' ∧ Below B w0 w' := by
  have HCC := Lib.hid (stable_any key B g n cap p d w0 w h hw hn hv hst hC)
  clear h hw hv hst hC
  go_enter Try.func35, Try.ntmps35
  go_wp2_with (go_at_call 43; refine HCC.out.mono ?_; rintro e w2 ⟨rfl, f4, hf3, hf4, hf5, hf6⟩)
  go_end0
  exact ⟨rfl, f4, hf3, hf4, hf5, hf6⟩
end Go.Proofs.Ytmdonhkdkapjpaa
