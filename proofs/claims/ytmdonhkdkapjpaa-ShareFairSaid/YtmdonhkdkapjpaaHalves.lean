/- The library's merging of two ranges side by side, of whatever length. -/
import Derived.Test.YtmdonhkdkapjpaaMerge
namespace Go.Proofs.Ytmdonhkdkapjpaa
open Go.RowKit

/-- Merging two ranges side by side that lie in a row of at most n places, and are at most N places long. -/
def Merges (key : Int → Int) (B g n cap : Nat) (p : Addr) (w0 : World) (N : Nat) : Prop :=
  ∀ (a m b : Nat) (A M C : Int) (d : Nat → Int) (w : World), b - a ≤ N → A = a → M = m → C = b → a < m → m < b → b ≤ n → RowOf B g n cap d w → Below B w0 w → Vals d n → So key d a m → So key d m b → St key d a b →
    Calls Try.prog 50 #[.slice (some ⟨g, 0, none⟩) n cap, .int .i64 A, .int .i64 M, .int .i64 C, .func (.func 36) #[] #[.pointer (some p)]] w fun e w' => e = .returned (.tuple #[]) ∧ ∃ f, So key f a b ∧ Sub d f a b ∧ RowOf B g n cap f w' ∧ Below B w0 w'

set_option maxRecDepth 100000 in
set_option maxHeartbeats 8000000 in
theorem merge_halves (key : Int → Int) (B g n cap a m b : Nat) (p : Addr) (d : Nat → Int) (w0 w : World) (N : Nat) (h : RowOf B g n cap d w) (hw : Below B w0 w) (hn : n ≤ 1152921504606846976) (ha : a + 2 ≤ m) (hm : m + 2 ≤ b) (hb : b ≤ n) (hN : b - a ≤ N + 1) (hv : Vals d n) (hl : So key d a m) (hr : So key d m b) (hst : St key d a b) (hC : Cmps key B w0 n p) (ih : Merges key B g n cap p w0 N) :
    Calls Try.prog 50 #[.slice (some ⟨g, 0, none⟩) n cap, .int .i64 a, .int .i64 m, .int .i64 b, .func (.func 36) #[] #[.pointer (some p)]] w fun e w' => e = .returned (.tuple #[]) ∧ ∃ f, So key f a b ∧ Sub d f a b ∧ RowOf B g n cap f w' ∧ Below B w0 w' := by
  have HH := Lib.hid h
  have HC := Lib.hid hC
  have HV := Lib.hid hv
  have HS := Lib.hid hst
  have HL := Lib.hid hl
  have HR := Lib.hid hr
  have HW := Lib.hid hw
  have IH := Lib.hid ih
  have o1 : ((m : Int) - (a : Int) == 1) = false := by rw [beq_eq_false_iff_ne]; omega
  have o2 : ((b : Int) - (m : Int) == 1) = false := by rw [beq_eq_false_iff_ne]; omega
  obtain ⟨mid, mq, m1, m2⟩ : ∃ mid : Nat, ((a : Int) + (b : Int)) / 2 = (mid : Int) ∧ 2 * mid ≤ a + b ∧ a + b ≤ 2 * mid + 1 := ⟨(a + b) / 2, by omega, by omega, by omega⟩
  obtain ⟨g1, g2, g3, g4, g5⟩ := lo_hi ha hm m1 m2
  have G5 := Lib.hid g5
  have CUT : Hid (∀ s, lo0 a m b mid ≤ s → s ≤ hi0 m mid → (∀ c, lo0 a m b mid ≤ c → c < s → bt key (d c) (d (mid + m - 1 - c))) → (∀ c, s ≤ c → c < hi0 m mid → bt key (d (mid + m - 1 - c)) (d c)) → a ≤ s ∧ s ≤ m ∧ s ≤ mid ∧ m ≤ mid + m - s ∧ mid + m - s ≤ b ∧ Turned key (rot d s m (mid + m - s)) a s mid (mid + m - s) b) :=
    Lib.hid fun s h1 h2 h3 h4 => cut_turned hl hr hst ha hm m1 m2 ⟨h1, h2, h3, h4⟩
  have LO : Hid (lo0 a m b mid = if mid < m then mid + m - b else a) := Lib.hid rfl
  have HI : Hid (hi0 m mid = if mid < m then mid else m) := Lib.hid rfl
  generalize lo0 a m b mid = lo at *
  generalize hi0 m mid = hi at *
  clear h hC hv hst hw hl hr g5 ih
  go_enter Try.func50, Try.ntmps50
  go_upto_if 140 with fail
  go_cut [20, 21] (fun s r wx => s = .int .i64 lo ∧ r = .int .i64 hi ∧ wx = w)
  case first =>
    as_aux_lemma =>
      by_cases hmm : mid < m
      · have e1 : Hid ((lo : Int) = (mid : Int) + (m : Int) - (b : Int)) := Lib.hid (by have := LO.out; rw [if_pos hmm] at this; omega)
        have e2 : Hid (hi = mid) := Lib.hid (by have := HI.out; rw [if_pos hmm] at this; omega)
        go_wp2_with fail
        go_meet
        exact ⟨by rw [e1.out], by rw [e2.out], rfl⟩
      · have e1 : Hid (lo = a) := Lib.hid (by have := LO.out; rw [if_neg hmm] at this; exact this)
        have e2 : Hid (hi = m) := Lib.hid (by have := HI.out; rw [if_neg hmm] at this; exact this)
        go_wp2_with fail
        go_meet
        exact ⟨by rw [e1.out], by rw [e2.out], rfl⟩
  case rest =>
    obtain ⟨rfl, rfl, rfl⟩ := hcut
    go_wp2
    go_loopw [20, 21] (fun i' j' wr => ∃ s r : Nat, i' = .int .i64 s ∧ j' = .int .i64 r ∧ lo ≤ s ∧ s ≤ r ∧ r ≤ hi ∧ Hid (∀ c, lo ≤ c → c < s → bt key (d c) (d (mid + m - 1 - c))) ∧ Hid (∀ c, r ≤ c → c < hi → bt key (d (mid + m - 1 - c)) (d c)) ∧ Hid (RowOf B g n cap d wr) ∧ Hid (Below B w0 wr)) (fun i j _ => (intOf j).toNat - (intOf i).toNat)
    case atStart => exact ⟨lo, hi, rfl, rfl, by omega, g2, by omega, Lib.hid (fun h h1 h2 => by omega), Lib.hid (fun h h1 h2 => by omega), HH, HW⟩
    case round =>
      obtain ⟨s, r, rfl, rfl, hs, hsr, hr, hl, hrr, hrow, hbl⟩ := hrel
      by_cases hlt : s < r
      · obtain ⟨h, hq, h1, h2⟩ : ∃ h : Nat, ((s : Int) + (r : Int)) / 2 = (h : Int) ∧ s ≤ h ∧ h < r := ⟨(s + r) / 2, by omega, by omega, by omega⟩
        obtain ⟨v1, v2⟩ := G5.out h (by omega) (by omega)
        obtain ⟨x, hx⟩ : ∃ x, mid + m - 1 - h = x := ⟨_, rfl⟩
        have q1 : (mid : Int) + (m : Int) - 1 - (h : Int) = (x : Int) := by omega
        rw [hx] at v1 v2
        have i1 : (h : Int) < (n : Int) := by omega
        have i2 : (x : Int) < (n : Int) := by omega
        have cA := own_cell hrow.out h (by omega)
        have cB := own_cell hrow.out x (by omega)
        have hc := cmps_at HC.out HV.out (i := x) (j := h) (by omega) (by omega) hbl.out
        obtain ⟨tl1, tl2⟩ := st_tell HS.out (l := h) (r := x) (by omega) (by omega) (by omega)
        have hcn := cf_neg key (d x) (d h)
        obtain ⟨c, hce⟩ : ∃ c, cfOf key (d x) (d h) = c := ⟨_, rfl⟩
        rw [hce] at hc hcn
        have HCC := Lib.hid hc
        by_cases hneg : c < 0
        · as_aux_lemma =>
            have hd : decide (c < 0) = true := decide_eq_true hneg
            have HR2 : Hid (∀ k, h ≤ k → k < hi → bt key (d (mid + m - 1 - k)) (d k)) := Lib.hid fun k k1 k2 => by
              have h3 := tl1 (hcn.1 hneg)
              rcases (by omega : k = h ∨ h < k) with e | e
              · rw [e, hx]; exact h3
              · obtain ⟨z1, z2⟩ := G5.out k (by omega) k2
                exact bt_trans (bt_trans (HR.out (mid + m - 1 - k) x z1 (by omega) v2) h3) (HL.out h k (by omega) e (by omega))
            clear hneg hcn hc hce tl1 tl2 hx
            go_upto_region 35 with fail
            go_quiet (first | (go_at_call 36; refine Calls.quiet_of (HCC.out _)))
            go_wp2
            go_roundw
            case rel => exact ⟨s, h, rfl, by first | rfl | (rw [hq]), by omega, by omega, by omega, hl, HR2, hrow, Lib.hid (drawn_so hbl.out nq)⟩
            case measure => simp [intOf]; omega
        · as_aux_lemma =>
            have hd : decide (c < 0) = false := decide_eq_false hneg
            have HL2 : Hid (∀ k, lo ≤ k → k < h + 1 → bt key (d k) (d (mid + m - 1 - k))) := Lib.hid fun k k1 k2 => by
              have h3 := tl2 (fun e => hneg (hcn.2 e))
              rcases (by omega : k = h ∨ k < h) with e | e
              · rw [e, hx]; exact h3
              · obtain ⟨z1, z2⟩ := G5.out k (by omega) (by omega)
                exact bt_trans (bt_trans (HL.out k h (by omega) e (by omega)) h3) (HR.out x (mid + m - 1 - k) v1 (by omega) z2)
            clear hneg hcn hc hce tl1 tl2 hx
            go_upto_region 35 with fail
            go_quiet (first | (go_at_call 36; refine Calls.quiet_of (HCC.out _)))
            go_wp2
            go_roundw
            case rel => exact ⟨h + 1, r, by go_num, rfl, by omega, by omega, hr, HL2, hrr, hrow, Lib.hid (drawn_so hbl.out nq)⟩
            case measure => simp [intOf]; omega
      · obtain rfl : s = r := by omega
        obtain ⟨a1, a2, a3, a4, a5, hT⟩ := CUT.out s hs hr hl.out hrr.out
        have HT := Lib.hid hT
        obtain ⟨z, hz⟩ : ∃ z, mid + m - s = z := ⟨_, rfl⟩
        rw [hz] at a4 a5 HT
        have q1 : (mid : Int) + (m : Int) - (s : Int) = (z : Int) := by omega
        clear hT hl hrr CUT G5
        clear hlt hsr hs hr
        go_upto_region 39 with fail
        go_cut [185] (fun t wx => t = .bool (decide (s < m ∧ m < z)) ∧ wx = wr)
        case first =>
          as_aux_lemma =>
            by_cases c1 : s < m
            · have d1 : decide ((s : Int) < (m : Int)) = true := decide_eq_true (by omega)
              by_cases c2 : m < z
              · have d2 : decide ((m : Int) < (z : Int)) = true := decide_eq_true (by omega)
                have e1 : Hid (decide (s < m ∧ m < z) = true) := Lib.hid (decide_eq_true ⟨c1, c2⟩)
                go_wp2_with fail
                go_meet
                exact ⟨by rw [e1.out], rfl⟩
              · have d2 : decide ((m : Int) < (z : Int)) = false := decide_eq_false (by omega)
                have d3 : decide (m < z) = false := decide_eq_false (by omega)
                have e1 : Hid (decide (s < m ∧ m < z) = false) := Lib.hid (decide_eq_false (fun h => c2 h.2))
                go_wp2_with fail
                go_meet
                exact ⟨by rw [e1.out], rfl⟩
            · have d1 : decide ((s : Int) < (m : Int)) = false := decide_eq_false (by omega)
              have d3 : decide (s < m) = false := decide_eq_false (by omega)
              have e1 : Hid (decide (s < m ∧ m < z) = false) := Lib.hid (decide_eq_false (fun h => c1 h.1))
              go_wp2_with fail
              go_meet
              exact ⟨by rw [e1.out], rfl⟩
        case rest =>
          obtain ⟨rfl, rfl⟩ := hcut
          go_upto_if 185 with fail
          go_cut [] (fun wx => Hid (RowOf B g n cap (rot d s m z) wx) ∧ Hid (Below B w0 wx))
          case first =>
            as_aux_lemma =>
              by_cases c1 : s < m ∧ m < z
              · have e1 : decide (s < m ∧ m < z) = true := decide_eq_true c1
                have hc := turn_any B g n cap s m z (.func (.func 36) #[] #[.pointer (some p)]) d wc hrow.out (by omega) c1.1 c1.2 (by omega)
                have HCC := Lib.hid hc
                clear hc c1
                rw [e1]
                go_wp2_with (go_at_call 52; refine HCC.out.mono ?_; rintro e w1 ⟨rfl, hr1, hb1⟩)
                go_meet
                exact ⟨Lib.hid hr1, Lib.hid (hbl.out.trans hb1)⟩
              · have e1 : decide (s < m ∧ m < z) = false := decide_eq_false c1
                have e2 := rot_same d a2 a4 c1
                clear c1
                rw [e1]
                go_wp2_with fail
                go_meet
                exact ⟨by rw [e2]; exact hrow, hbl⟩
          case rest =>
            clear hrow hbl
            obtain ⟨hrow, hbl⟩ := hcut
            have hsub := Lib.hid ((sub_rot d a2 a4).wide (a' := a) (b' := b) a1 a5)
            generalize rot d s m z = e0 at *
            have HV0 := Lib.hid (HV.out.sub hsub.out hb)
            go_upto_region 41 with fail
            go_cut [199] (fun t wx => t = .bool (decide (a < s ∧ s < mid)) ∧ wx = wc)
            case first =>
              as_aux_lemma =>
                by_cases c1 : a < s
                · have d1 : decide ((a : Int) < (s : Int)) = true := decide_eq_true (by omega)
                  by_cases c2 : s < mid
                  · have d2 : decide ((s : Int) < (mid : Int)) = true := decide_eq_true (by omega)
                    have e1 : Hid (decide (a < s ∧ s < mid) = true) := Lib.hid (decide_eq_true ⟨c1, c2⟩)
                    go_wp2_with fail
                    go_meet
                    exact ⟨by rw [e1.out], rfl⟩
                  · have d2 : decide ((s : Int) < (mid : Int)) = false := decide_eq_false (by omega)
                    have d3 : decide (s < mid) = false := decide_eq_false (by omega)
                    have e1 : Hid (decide (a < s ∧ s < mid) = false) := Lib.hid (decide_eq_false (fun h => c2 h.2))
                    go_wp2_with fail
                    go_meet
                    exact ⟨by rw [e1.out], rfl⟩
                · have d1 : decide ((a : Int) < (s : Int)) = false := decide_eq_false (by omega)
                  have d3 : decide (a < s) = false := decide_eq_false (by omega)
                  have e1 : Hid (decide (a < s ∧ s < mid) = false) := Lib.hid (decide_eq_false (fun h => c1 h.1))
                  go_wp2_with fail
                  go_meet
                  exact ⟨by rw [e1.out], rfl⟩
            case rest =>
              obtain ⟨rfl, rfl⟩ := hcut
              go_upto_if 199 with fail
              go_cut [] (fun wx => ∃ e1, Hid (So key e1 a mid ∧ Sub e0 e1 a mid) ∧ Hid (RowOf B g n cap e1 wx) ∧ Hid (Below B w0 wx))
              case first =>
                as_aux_lemma =>
                  by_cases c1 : a < s ∧ s < mid
                  · have e1 : decide (a < s ∧ s < mid) = true := decide_eq_true c1
                    have hc := IH.out a s mid a s mid e0 wc (by omega) rfl rfl rfl c1.1 c1.2 (by omega) hrow.out hbl.out HV0.out HT.out.l1 HT.out.r1 (HT.out.st.sub (by omega) (by omega))
                    have HCC := Lib.hid hc
                    clear hc c1
                    rw [e1]
                    go_wp2_with (go_at_call 50; refine HCC.out.mono ?_; rintro e w1 ⟨rfl, f1, hf1, hf2, hr1, hb1⟩)
                    go_meet
                    exact ⟨f1, Lib.hid ⟨hf1, hf2⟩, Lib.hid hr1, Lib.hid hb1⟩
                  · have e1 : decide (a < s ∧ s < mid) = false := decide_eq_false c1
                    have HS1 : Hid (So key e0 a mid ∧ Sub e0 e0 a mid) := Lib.hid ⟨by
                      rcases (by omega : s = a ∨ s = mid) with e | e
                      · have := HT.out.r1; rw [e] at this; exact this
                      · have := HT.out.l1; rw [e] at this; exact this, Sub.refl _ _ _⟩
                    clear c1
                    rw [e1]
                    go_wp2_with fail
                    go_meet
                    exact ⟨e0, HS1, hrow, hbl⟩
              case rest =>
                clear hrow hbl
                obtain ⟨e1, hS1, hrow, hbl⟩ := hcut
                have HV1 := Lib.hid (HV0.out.sub hS1.out.2 (by omega))
                have HL2 : Hid (So key e1 mid z) := Lib.hid (HT.out.l2.kept hS1.out.2 (by omega))
                have HR2 : Hid (So key e1 z b) := Lib.hid (HT.out.r2.kept hS1.out.2 (by omega))
                have HS2 : Hid (St key e1 mid b) := Lib.hid ((HT.out.st.around hS1.out.2 (by omega) (by omega) hS1.out.1.st).sub (by omega) (by omega))
                by_cases c1 : mid < z ∧ z < b
                · have d1 : decide ((mid : Int) < (z : Int)) = true := decide_eq_true (by omega)
                  have d2 : decide ((z : Int) < (b : Int)) = true := decide_eq_true (by omega)
                  have hc := IH.out mid z b mid z b e1 wc (by omega) rfl rfl rfl c1.1 c1.2 (by omega) hrow.out hbl.out HV1.out HL2.out HR2.out HS2.out
                  have HCC := Lib.hid hc
                  obtain ⟨c2, c3⟩ := c1
                  clear hc
                  go_wp2_with (go_at_call 50; refine HCC.out.mono ?_; rintro e w1 ⟨rfl, f1, hf1, hf2, hr1, hb1⟩)
                  go_end0
                  exact ⟨rfl, f1, halves_so HT.out.cross hS1.out.2 hS1.out.1 hf2 hf1, hsub.out.trans ((hS1.out.2.wide (by omega) (by omega)).trans (hf2.wide (by omega) (by omega))), hr1, hb1⟩
                · have HS3 : Hid (So key e1 mid b) := Lib.hid (by
                    rcases (by omega : z = mid ∨ z = b) with e | e
                    · have := HR2.out; rw [e] at this; exact this
                    · have := HL2.out; rw [e] at this; exact this)
                  have HE : Hid (So key e1 a b) := Lib.hid (halves_so HT.out.cross hS1.out.2 hS1.out.1 (Sub.refl _ _ _) HS3.out)
                  by_cases c2 : mid < z
                  · have d1 : decide ((mid : Int) < (z : Int)) = true := decide_eq_true (by omega)
                    have d2 : decide ((z : Int) < (b : Int)) = false := decide_eq_false (by omega)
                    have d3 : decide (z < b) = false := decide_eq_false (by omega)
                    clear c1
                    go_wp2_with fail
                    go_end0
                    exact ⟨rfl, e1, HE.out, hsub.out.trans (hS1.out.2.wide (by omega) (by omega)), hrow.out, hbl.out⟩
                  · have d1 : decide ((mid : Int) < (z : Int)) = false := decide_eq_false (by omega)
                    have d3 : decide (mid < z) = false := decide_eq_false (by omega)
                    clear c1
                    go_wp2_with fail
                    go_end0
                    exact ⟨rfl, e1, HE.out, hsub.out.trans (hS1.out.2.wide (by omega) (by omega)), hrow.out, hbl.out⟩

theorem merges (key : Int → Int) (B g n cap : Nat) (p : Addr) (w0 : World) (hn : n ≤ 1152921504606846976) (hC : Cmps key B w0 n p) : ∀ N, Merges key B g n cap p w0 N := by
  intro N
  induction N with
  | zero => intro a m b A M C d w h1 _ _ _ h2 h3; omega
  | succ N ih =>
    intro a m b A M C d w hN hA hM hCc ham hmb hb hrow hbl hv hl hr hst
    subst hA; subst hM; subst hCc
    rcases (by omega : m = a + 1 ∨ a + 2 ≤ m) with e | e
    · subst e
      exact merge_one key B g n cap a b p d w0 w hrow hbl (by omega) hmb hb hv hr hst hC
    · rcases (by omega : b = m + 1 ∨ m + 2 ≤ b) with e2 | e2
      · subst e2
        exact merge_end key B g n cap a m p d w0 w hrow hbl (by omega) e hb hv hl hst hC
      · exact merge_halves key B g n cap a m b p d w0 w N hrow hbl hn e e2 hb hN hv hl hr hst hC ih
end Go.Proofs.Ytmdonhkdkapjpaa
