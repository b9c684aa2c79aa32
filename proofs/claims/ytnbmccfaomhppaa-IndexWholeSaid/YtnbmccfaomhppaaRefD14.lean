/- The document's own Add of a text's numbers to a list of pairs, for every list and in every world. -/
import Derived.Test.YtnbmccfaomhppaaRefC14
import Derived.Test.YtnbmccfaomhppaaRefc
namespace Go.Proofs.Ytnbmccfaomhppaa
open Go.RowKit

/-- What is wrong with adding numbers under a text, and what comes of it. -/
def addsX (s : List UInt8) (l : List Pr) (ns : List Int) : Int := if checkOf s ≠ 0 then 9 else addsE s l ns
def addsV (s : List UInt8) (l : List Pr) (ns : List Int) : List Pr := if addsX s l ns = 0 then addsL s l ns else []
theorem addsV_bad {s : List UInt8} {l : List Pr} {ns : List Int} {E : Int} (h : addsX s l ns = E) (hE : E ≠ 0) : addsV s l ns = [] := by
  unfold addsV
  rw [h, if_neg hE]
theorem addsX_on {s : List UInt8} (h : checkOf s = 0) (l : List Pr) (ns : List Int) : addsX s l ns = addsE s l ns := by
  unfold addsX
  rw [if_neg (by simpa using h)]
theorem addsE_cons (s : List UInt8) (l : List Pr) (n : Int) (ns : List Int) : addsE s l (n :: ns) = if addE l s n ≠ 0 then addE l s n else addsE s (insP l (s, n)) ns := rfl
theorem addsL_cons (s : List UInt8) (l : List Pr) (n : Int) (ns : List Int) : addsL s l (n :: ns) = addsL s (insP l (s, n)) ns := rfl
/-- Under way: what is still to be told. -/
structure Adding (s : List UInt8) (l : List Pr) (ns : List Int) (k : Nat) (m : List Pr) : Prop where
  err : addsE s m (ns.drop k) = addsE s l ns
  out : addsL s m (ns.drop k) = addsL s l ns
  len : m.length = l.length + k
theorem Adding.stop {s : List UInt8} {l m : List Pr} {ns : List Int} {k : Nat} {E : Int} (h : Adding s l ns k m) (hk : k < ns.length) (he : addE m s (numAt ns k) = E) (hE : E ≠ 0) : addsE s l ns = E := by
  rw [← h.err, drop_at ns k hk]
  unfold addsE
  rw [he, if_pos hE]
theorem Adding.next {s : List UInt8} {l m : List Pr} {ns : List Int} {k : Nat} (h : Adding s l ns k m) (hk : k < ns.length) (he : addE m s (numAt ns k) = 0) : Adding s l ns (k + 1) (insP m (s, numAt ns k)) := by
  have h1 := h.err
  have h2 := h.out
  rw [drop_at ns k hk] at h1 h2
  rw [addsE_cons, he, if_neg (by simp)] at h1
  rw [addsL_cons] at h2
  exact ⟨h1, h2, by rw [len_insP, h.len]; omega⟩
theorem Adding.done {s : List UInt8} {l m : List Pr} {ns : List Int} (h : Adding s l ns ns.length m) : addsE s l ns = 0 ∧ addsL s l ns = m := by
  have h1 := h.err
  have h2 := h.out
  rw [List.drop_length] at h1 h2
  exact ⟨h1.symm, h2.symm⟩
set_option maxHeartbeats 4000000 in
theorem radds14_any (a : Option Addr) (cap : Nat) (l : List Pr) (s : List UInt8) (b : Option Addr) (bc : Nat) (ns : List Int) (A : Nat) (w : World) (hcap : l.length ≤ cap) (hx : Prs A w.heap.size w a l) (hi : Ints w.heap.size w b ns) (hn : l.length ≤ 800000) (hns : ns.length ≤ 1000) :
    Calls Try.prog 20 #[.slice a l.length cap, .string (tx s), .slice b ns.length bc] w fun e w' => ∃ a' c', e = .returned (.tuple #[.slice a' (addsV s l ns).length c', .int .i64 (addsX s l ns)]) ∧ Prs 0 w'.heap.size w' a' (addsV s l ns) ∧ Below w.heap.size w w' := by
  have hck := rcheck_any (tx s) w
  rw [tx_list] at hck
  have HX := Lib.hid (hx.wide (Nat.zero_le _) (Nat.le_refl _))
  have HI := Lib.hid hi
  have HCap := Lib.hid hcap
  clear hx hi hcap
  by_cases hc : ¬ checkOf s = 0
  · have d1 : (checkOf s != 0) = true := by rw [bne_iff_ne]; exact hc
    have HR : Hid (addsX s l ns = 9) := Lib.hid (by unfold addsX; rw [if_pos hc])
    have HV := Lib.hid (addsV_bad HR.out (by decide))
    clear hc
    go_enter Try.func20, Try.ntmps20
    go_wp2_with (go_at_call 33; refine hck.mono ?_; rintro e w1 ⟨rfl, hb⟩; have HB := Lib.hid hb; clear hb)
    go_ret2
    rw [HR.out, HV.out]
    exact ⟨none, 0, rfl, Or.inl rfl, HB.out⟩
  have hc := Decidable.not_not.1 hc
  have d1 : (checkOf s != 0) = false := by rw [hc]; rfl
  have HE := Lib.hid (addsX_on hc l ns)
  clear hc
  go_enter Try.func20, Try.ntmps20
  go_upto_region 4 with (go_at_call 33; refine hck.mono ?_; rintro e w1 ⟨rfl, hb⟩; have HB := Lib.hid hb; clear hb hck)
  go_loopw [0, 8] (fun s0 s8 wr => ∃ (k : Nat) (a8 : Option Addr) (c8 : Nat) (m : List Pr), s0 = .slice a8 m.length c8 ∧ s8 = .int .i64 k ∧ k ≤ ns.length ∧ Hid (m.length ≤ c8 ∧ Prs 0 wr.heap.size wr a8 m ∧ Below w.heap.size w wr) ∧ Hid (Adding s l ns k m)) (fun _ i _ => ns.length + 1 - (intOf i).toNat)
  case atStart => exact ⟨0, a, cap, l, rfl, rfl, by omega, Lib.hid ⟨HCap.out, Rw.wide (Rw.below HX.out HB.out) (Nat.zero_le _) HB.out.size, HB.out⟩, Lib.hid ⟨rfl, rfl, rfl⟩⟩
  case round =>
    obtain ⟨k, a8, c8, m, rfl, rfl, hk, HM, HA⟩ := hrel
    have hml : m.length ≤ 801000 := by have := HA.out.len; omega
    by_cases hlt : k < ns.length
    · have i1 : (k : Int) < (ns.length : Int) := by omega
      have i3 : (0 : Int) ≤ (k : Int) := by omega
      rcases HI.out.below HM.out.2.2 with h0 | ⟨bb, off, rfl, _, hcell⟩
      · exfalso; rw [h0] at hlt; simp at hlt
      have c0 := hcell k hlt
      clear hcell
      obtain ⟨n, hnn⟩ : ∃ n, numAt ns k = n := ⟨_, rfl⟩
      have hstop := fun E => HA.out.stop (E := E) hlt
      have hnext := HA.out.next hlt
      rw [hnn] at c0 hstop hnext
      have HNX := Lib.hid hnext
      have HST := Lib.hid hstop
      clear hstop hnext
      by_cases q1 : n < 1
      · have d2 : decide (n < 1) = true := decide_eq_true q1
        have HR : Hid (addsX s l ns = 31) := Lib.hid (by rw [HE.out]; exact HST.out 31 (by unfold addE; rw [if_pos (Or.inl q1)]) (by decide))
        have HV := Lib.hid (addsV_bad HR.out (by decide))
        clear q1 hnn
        go_wp2
        go_ret2
        rw [HR.out, HV.out]
        exact ⟨none, 0, rfl, Or.inl rfl, HM.out.2.2⟩
      have d2 : decide (n < 1) = false := decide_eq_false q1
      by_cases q2 : 999999 < n
      · have d3 : decide (999999 < n) = true := decide_eq_true q2
        have HR : Hid (addsX s l ns = 31) := Lib.hid (by rw [HE.out]; exact HST.out 31 (by unfold addE; rw [if_pos (Or.inr q2)]) (by decide))
        have HV := Lib.hid (addsV_bad HR.out (by decide))
        clear q1 q2 hnn
        go_wp2
        go_ret2
        rw [HR.out, HV.out]
        exact ⟨none, 0, rfl, Or.inl rfl, HM.out.2.2⟩
      have d3 : decide (999999 < n) = false := decide_eq_false q2
      have hhas := rhas_any a8 c8 m (s, n) 0 wr HM.out.2.1 (by omega)
      by_cases q3 : (s, n) ∈ m
      · rw [decide_eq_true q3] at hhas
        have HR : Hid (addsX s l ns = 32) := Lib.hid (by rw [HE.out]; exact HST.out 32 (by unfold addE; rw [if_neg (by omega), if_pos q3]) (by decide))
        have HV := Lib.hid (addsV_bad HR.out (by decide))
        clear q1 q2 q3 hnn
        go_wp2_with (go_at_call 34; refine hhas.mono ?_; rintro e w2 ⟨rfl, hb⟩; have HB2 := Lib.hid (HM.out.2.2.trans (hb.mono HM.out.2.2.size)); clear hb)
        go_ret2
        rw [HR.out, HV.out]
        exact ⟨none, 0, rfl, Or.inl rfl, HB2.out⟩
      rw [decide_eq_false q3] at hhas
      by_cases q4 : 2000 ≤ m.length
      · have d4 : decide (2000 ≤ (m.length : Int)) = true := decide_eq_true (by omega)
        have d4' : decide (2000 ≤ m.length) = true := decide_eq_true q4
        have HR : Hid (addsX s l ns = 37) := Lib.hid (by rw [HE.out]; exact HST.out 37 (by unfold addE; rw [if_neg (by omega), if_neg q3, if_pos q4]) (by decide))
        have HV := Lib.hid (addsV_bad HR.out (by decide))
        clear q1 q2 q3 q4 hnn
        go_wp2_with (go_at_call 34; refine hhas.mono ?_; rintro e w2 ⟨rfl, hb⟩; have HB2 := Lib.hid (HM.out.2.2.trans (hb.mono HM.out.2.2.size)); clear hb)
        go_ret2
        rw [HR.out, HV.out]
        exact ⟨none, 0, rfl, Or.inl rfl, HB2.out⟩
      have d4 : decide (2000 ≤ (m.length : Int)) = false := decide_eq_false (by omega)
      have d4' : decide (2000 ≤ m.length) = false := decide_eq_false q4
      have HA2 := Lib.hid (HNX.out (by unfold addE; rw [if_neg (by omega), if_neg q3, if_neg q4]))
      have HADD : Hid (∀ W, Below wr.heap.size wr W → W.cell? ⟨bb, off + k, none⟩ = some (.int .i64 n) ∧ Calls Try.prog 35 #[.slice a8 m.length c8, .agg #[.string (tx s), .int .i64 n]] W fun e w' => ∃ a' c', e = .returned (.slice a' (insP m (s, n)).length c') ∧ (insP m (s, n)).length ≤ c' ∧ Prs 0 w'.heap.size w' a' (insP m (s, n)) ∧ Below W.heap.size W w') := Lib.hid fun W hW => ⟨(hW.cell (p := ⟨bb, off + k, none⟩) (World.block_lt_of_cell? wr _ c0)).trans c0, radd14_any a8 c8 m (s, n) 0 W HM.out.1 (Rw.wide (Rw.below HM.out.2.1 hW) (Nat.le_refl _) hW.size) (by omega)⟩
      clear q1 q2 q3 q4 hnn HST HNX
      go_upto_region 10 with (go_at_call 34; refine hhas.mono ?_; rintro e w2 ⟨rfl, hb⟩; have HB2 := Lib.hid hb; clear hb)
      obtain ⟨c2, hadd⟩ := HADD.out _ HB2.out
      go_wp2_with (go_at_call 35; refine hadd.mono ?_; rintro e w3 ⟨a9, c9, rfl, hc9, hp9, hb⟩; have HM3 : Hid ((insP m (s, n)).length ≤ c9 ∧ Prs 0 w3.heap.size w3 a9 (insP m (s, n)) ∧ Below w.heap.size w w3) := Lib.hid ⟨hc9, hp9, HM.out.2.2.trans ((HB2.out.trans (hb.mono HB2.out.size)).mono HM.out.2.2.size)⟩; clear hc9 hp9 hb)
      go_roundw
      case rel => exact ⟨k + 1, a9, c9, insP m (s, n), rfl, by first | rfl | go_num, by omega, HM3, HA2⟩
      case measure => first | (simp [intOf]; omega) | simp [intOf]
    · obtain rfl : k = ns.length := by omega
      obtain ⟨r1, r2⟩ := HA.out.done
      have HR : Hid (addsX s l ns = 0 ∧ addsV s l ns = m) := Lib.hid (by
        have h : addsX s l ns = 0 := by rw [HE.out, r1]
        refine ⟨h, ?_⟩
        unfold addsV
        rw [if_pos h, r2])
      clear r1 r2
      go_wp2
      go_ret2
      rw [HR.out.1, HR.out.2]
      exact ⟨a8, c8, rfl, HM.out.2.1, HM.out.2.2⟩
end Go.Proofs.Ytnbmccfaomhppaa
