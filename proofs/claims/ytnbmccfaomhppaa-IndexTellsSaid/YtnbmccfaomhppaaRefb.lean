/- The document's own answer for folding, for every text of whatever bytes; it leaves what lay there. -/
import Derived.Test.YtnbmccfaomhppaaMFold
import Derived.Test.YtnbmccfaomhppaaRef
namespace Go.Proofs.Ytnbmccfaomhppaa
open Go.RowKit

theorem infoByte : (Try.prog.info? 5).map (fun i => (i.zero, i.size, i.bytes)) = some (some (.int .u8 0), 1, 1) := by kernel_rfl

/-- Appending one byte to a row of the call's own: the literal of one byte is the newest block. -/
theorem append_byte {ops : Array Oper} {rest : List Oper} {o : Oper} {a : Act} {Q : Exit → Act → World → Prop} {w : World} (hgd : o.guard = none) (s x : Operand)
    (ho : o.op = .call { callee := .builtin .append, args := #[s, x], argTypes := #[102, 102] })
    (B k : Nat) (v : Value) (xs : List Value) (hs : a.eval s = v) (hown : w.ownsRow B 5 1 v k xs) (x0 : Int)
    (hx : a.eval x = .slice (some ⟨w.heap.size, 0, none⟩) 1 1) (hk : k + 1 ≤ 140737488355328) (hB : B ≤ w.heap.size)
    (h : ∀ v' w', w'.ownsRow B 5 1 v' (k + 1) (xs ++ [.int .u8 x0]) → (w.alloc (.cells #[.int .u8 x0] 5)).grownBy w' v.ownBlock → wpList Try.prog ops Q rest (a.put o.dst v') w') :
    wpList Try.prog ops Q (o :: rest) a (w.alloc (.cells #[.int .u8 x0] 5)) := by
  obtain ⟨i0, hi, hz0, hz1, hz2⟩ := info_parts infoByte
  refine wpList_append_own _ hgd s x 102 ho B 5 i0 (.int .u8 0) 1 1 Try.underlying102 hi hz0 hz1 hz2 rfl (by decide) v k xs hs (hown.alloc _) ⟨w.heap.size, 0, none⟩ 1 1 [.int .u8 x0] hx rfl ?_ ?_ (by unfold maxLen; omega) (by omega) (by simp; omega) fun v' w' h1 h2 _ => h v' w' h1 h2
  · intro j u hj
    match j, hj with
    | 0, hj => simp at hj; subst hj; simp [Addr.add]
  · intro u hu; simp at hu; subst hu; rfl

theorem byteCells_at (l : List UInt8) (j : Nat) (hj : j < l.length) : (Lib.byteCells l)[j]? = some (.int .u8 (l[j].toNat : Int)) := by
  unfold Lib.byteCells
  rw [List.getElem?_map, List.getElem?_eq_getElem hj]
  rfl
theorem run_first (ok : UInt8 → Bool) (s : ByteArray) (h : 0 < s.size) (h45 : (s[0]'h).toNat = 45) : run ok true s.data.toList = none :=
  run_stop ok s 0 h true rfl (by rw [h45]; simp)
theorem run_last (ok : UInt8 → Bool) (s : ByteArray) (h : s.size - 1 < s.size) (h45 : (s[s.size - 1]'h).toNat = 45) : run ok true s.data.toList = none ∨ run ok true s.data.toList = some true := by
  have e := take_snoc s (s.size - 1) h
  rw [List.take_of_length_le (by rw [Array.length_toList]; show s.size ≤ _; omega)] at e
  rw [e, run_append]
  cases run ok true (s.data.toList.take (s.size - 1)) with
  | none => exact Or.inl rfl
  | some d =>
    simp only [Option.bind_some, run]
    split
    · exact Or.inr (by rw [decide_eq_true h45])
    · exact Or.inl rfl
theorem serial_no {ok : UInt8 → Bool} {l : List UInt8} (h : run ok true l = none ∨ run ok true l = some true) : serialB ok l = false := by
  unfold serialB
  rcases h with h | h <;> rw [h] <;> simp

theorem cells_next (s : ByteArray) (k : Nat) (h : k < s.size) (x : Int) (hx : x = ((cap (s[k]'h)).toNat : Int)) :
    Lib.byteCells ((s.data.toList.map cap).take k) ++ [.int .u8 x] = Lib.byteCells ((s.data.toList.map cap).take (k + 1)) := by
  rw [← List.map_take, ← List.map_take, take_snoc s k h, hx]
  simp only [Lib.byteCells, List.map_append, List.map_cons, List.map_nil]

/-- What the loop knows at a round's head. -/
def RefAt (s : ByteArray) (w : World) (v i : Value) (wr : World) : Prop :=
  ∃ (k : Nat) (d : Bool), k ≤ s.size ∧ i = .int .i64 k ∧ wr.ownsRow w.heap.size 5 1 v k (Lib.byteCells ((s.data.toList.map cap).take k)) ∧ Below w.heap.size w wr ∧ run okF true (s.data.toList.take k) = some d ∧ (∀ h : k - 1 < s.size, 0 < k → d = decide ((s[k - 1]'h).toNat = 45)) ∧ (k = 0 → d = true)

set_option maxRecDepth 100000 in
set_option maxHeartbeats 1000000 in
theorem rfold_any (s : ByteArray) (w : World) : Calls Try.prog 53 #[.string s] w fun e w' => e = .returned (.tuple #[.string ⟨(foldL s.data.toList).toArray⟩, .int .i64 (foldE s.data.toList)]) ∧ Below w.heap.size w w' := by
  have hlen : s.data.toList.length = s.size := by rw [Array.length_toList]; rfl
  by_cases h0 : s.size = 0
  · have e0 : ((s.size : Int) == 0) = true := by simp [h0]
    have hl : s.data.toList = [] := List.length_eq_zero_iff.1 (by rw [hlen]; exact h0)
    have He := Lib.hid (fold_none (serial_no (ok := okF) (l := s.data.toList) (Or.inr (by rw [hl]; rfl))))
    clear hl hlen h0
    go_enter Try.func53, Try.ntmps53
    go_wp2
    go_ret2
    exact ⟨by rw [He.out.1, He.out.2]; rfl, Below.refl _ _⟩
  · have e0 : ((s.size : Int) == 0) = false := by rw [beq_eq_false_iff_ne]; omega
    by_cases h1 : 16 < s.size
    · have He := Lib.hid (fold_none (fold_long (l := s.data.toList) (by omega)))
      have h1' : (16 : Int) < (s.size : Int) := by omega
      clear hlen h0
      go_enter Try.func53, Try.ntmps53
      go_wp2
      go_ret2
      exact ⟨by rw [He.out.1, He.out.2]; rfl, Below.refl _ _⟩
    · have hp0 : 0 < s.size := by omega
      by_cases h2 : (s[0]'hp0).toNat = 45
      · have e2 : (((s[0]'hp0).toNat : Int) == 45) = true := by simp [h2]
        have He := Lib.hid (fold_none (serial_no (Or.inl (run_first okF s hp0 h2))))
        clear hlen h0 h2
        go_enter Try.func53, Try.ntmps53
        go_wp2
        go_ret2
        exact ⟨by rw [He.out.1, He.out.2]; rfl, Below.refl _ _⟩
      · have e2 : (((s[0]'hp0).toNat : Int) == 45) = false := by simp; omega
        have hpl : s.size - 1 < s.size := by omega
        by_cases h3 : (s[s.size - 1]'hpl).toNat = 45
        · have e3 : (((s[s.size - 1]'hpl).toNat : Int) == 45) = true := by simp [h3]
          have He := Lib.hid (fold_none (serial_no (run_last okF s hpl h3)))
          clear hlen h0 h2 h3
          go_enter Try.func53, Try.ntmps53
          go_wp2
          go_ret2
          exact ⟨by rw [He.out.1, He.out.2]; rfl, Below.refl _ _⟩
        · have e3 : (((s[s.size - 1]'hpl).toNat : Int) == 45) = false := by simp; omega
          obtain ⟨i0, hi, hz0, hz1, hz2⟩ := info_parts infoByte
          have HL := Lib.hid hlen
          have H2 := Lib.hid h2
          have H3 := Lib.hid h3
          clear hlen h2 h3
          go_enter Try.func53, Try.ntmps53
          go_wp2
          go_loopw [4, 5] (fun v i wr => RefAt s w v i wr) (fun _ i _ => s.size - (intOf i).toNat)
          case atStart => exact ⟨0, true, by omega, rfl, ⟨by simp [Lib.byteCells], Or.inl ⟨rfl, rfl⟩⟩, Below.refl _ _, rfl, fun _ h => absurd h (by omega), fun _ => rfl⟩
          case round =>
            obtain ⟨k, d, hk, rfl, hown, hbw, hrun, hd, hd0⟩ := hrel
            by_cases hlt : k < s.size
            · have hz := class_zero (s[k]'hlt)
              have hb8 : (s[k]'hlt).toNat < 256 := (s[k]'hlt).toNat_lt
              have Hd := Lib.hid hd
              have Hd0 := Lib.hid hd0
              have Hrun := Lib.hid hrun
              clear hd hd0 hrun
              by_cases h4 : okF (s[k]'hlt) = false
              · have e4 : (classOf ((s[k]'hlt).toNat : Int) == 0) = true := by simp [hz.2 h4]
                have He := Lib.hid (fold_none (serial_no (Or.inl (run_stop okF s k hlt d Hrun.out (by rw [h4]; rfl)))))
                clear hz h4
                go_wp2_with (go_at_call 70; refine (rclass_any _ _).mono ?_; rintro e w' ⟨rfl, rfl⟩)
                go_ret2
                exact ⟨by rw [He.out.1, He.out.2]; rfl, hbw⟩
              · have h4 : okF (s[k]'hlt) = true := by simpa using h4
                have e4 : (classOf ((s[k]'hlt).toNat : Int) == 0) = false := by
                  simp; exact fun e => by rw [hz.1 e] at h4; cases h4
                by_cases h5 : (s[k]'hlt).toNat = 45
                · have e5 : (((s[k]'hlt).toNat : Int) == 45) = true := by simp [h5]
                  have hk0 : 0 < k := by
                    rcases Nat.eq_zero_or_pos k with h | h
                    · subst h; exact absurd h5 H2.out
                    · exact h
                  have hk1 : k - 1 < s.size := by omega
                  have hd := Hd.out hk1 hk0
                  by_cases h6 : (s[k - 1]'hk1).toNat = 45
                  · have e6 : (((s[k - 1]'hk1).toNat : Int) == 45) = true := by simp [h6]
                    have He := Lib.hid (fold_none (serial_no (Or.inl (run_stop okF s k hlt d Hrun.out (by rw [h4, hd, decide_eq_true h5, decide_eq_true h6]; rfl)))))
                    clear hz h4 h5 hd h6
                    go_wp2_with (go_at_call 70; refine (rclass_any _ _).mono ?_; rintro e w' ⟨rfl, rfl⟩)
                    go_ret2
                    exact ⟨by rw [He.out.1, He.out.2]; rfl, hbw⟩
                  · have e6 : (((s[k - 1]'hk1).toNat : Int) == 45) = false := by simp; omega
                    have Hrg := Lib.hid (run_go okF s k hlt d Hrun.out (by rw [h4, hd, decide_eq_true h5, decide_eq_false h6]; rfl))
                    have hx : ((s[k]'hlt).toNat : Int) = ((cap (s[k]'hlt)).toNat : Int) := by rw [cap_toNat]; unfold capOf; rw [if_neg (by omega)]
                    have HX := Lib.hid hx
                    have h5' : ((s[k]'hlt).toNat : Int) < 97 := by omega
                    clear hz h4 h5 hd h6 hx
                    go_wp2_with (first | (go_at_call 70; refine (rclass_any _ _).mono ?_; rintro e w' ⟨rfl, rfl⟩) | (at_builtin; refine append_byte rfl _ _ rfl w.heap.size k _ _ rfl hown _ rfl (by omega) hbw.size ?_))
                    intro v' w2 hown' hgrow
                    have hown2 := cells_next s k hlt _ HX.out ▸ hown'
                    go_wp2
                    go_roundw
                    case rel => exact ⟨k + 1, _, by omega, by go_num, hown2, (hbw.alloc hbw.size _).grown hgrow (by have := hbw.size; simp; omega) (fun g hg => (hown.lt g hg).1), Hrg.out, fun _ _ => rfl, fun h => absurd h (by omega)⟩
                    case measure => simp [intOf]; omega
                · have e5 : (((s[k]'hlt).toNat : Int) == 45) = false := by rw [beq_eq_false_iff_ne]; omega
                  have Hrg := Lib.hid (run_go okF s k hlt d Hrun.out (by rw [h4, decide_eq_false h5]; rfl))
                  by_cases h6 : (s[k]'hlt).toNat < 97
                  · have hx : ((s[k]'hlt).toNat : Int) = ((cap (s[k]'hlt)).toNat : Int) := by rw [cap_toNat]; unfold capOf; rw [if_neg (by omega)]
                    have HX := Lib.hid hx
                    clear hz h4 h5 hx
                    go_wp2_with (first | (go_at_call 70; refine (rclass_any _ _).mono ?_; rintro e w' ⟨rfl, rfl⟩) | (at_builtin; refine append_byte rfl _ _ rfl w.heap.size k _ _ rfl hown _ rfl (by omega) hbw.size ?_))
                    intro v' w2 hown' hgrow
                    have hown2 := cells_next s k hlt _ HX.out ▸ hown'
                    go_wp2
                    go_roundw
                    case rel => exact ⟨k + 1, _, by omega, by go_num, hown2, (hbw.alloc hbw.size _).grown hgrow (by have := hbw.size; simp; omega) (fun g hg => (hown.lt g hg).1), Hrg.out, fun _ _ => rfl, fun h => absurd h (by omega)⟩
                    case measure => simp [intOf]; omega
                  · by_cases h7 : (s[k]'hlt).toNat ≤ 122
                    · have hx : ((s[k]'hlt).toNat : Int) - 32 = ((cap (s[k]'hlt)).toNat : Int) := by rw [cap_toNat]; unfold capOf; rw [if_pos (by omega)]
                      have HX := Lib.hid hx
                      have h6' : 97 ≤ (s[k]'hlt).toNat := by omega
                      clear hz h4 h5 hx h6
                      go_wp2_with (first | (go_at_call 70; refine (rclass_any _ _).mono ?_; rintro e w' ⟨rfl, rfl⟩) | (at_builtin; refine append_byte rfl _ _ rfl w.heap.size k _ _ rfl hown _ rfl (by omega) hbw.size ?_))
                      intro v' w2 hown' hgrow
                      have hown2 := cells_next s k hlt _ HX.out ▸ hown'
                      go_wp2
                      go_roundw
                      case rel => exact ⟨k + 1, _, by omega, by go_num, hown2, (hbw.alloc hbw.size _).grown hgrow (by have := hbw.size; simp; omega) (fun g hg => (hown.lt g hg).1), Hrg.out, fun _ _ => rfl, fun h => absurd h (by omega)⟩
                      case measure => simp [intOf]; omega
                    · have hx : ((s[k]'hlt).toNat : Int) = ((cap (s[k]'hlt)).toNat : Int) := by rw [cap_toNat]; unfold capOf; rw [if_neg (by omega)]
                      have HX := Lib.hid hx
                      have h7' : 122 < (s[k]'hlt).toNat := by omega
                      clear hz h4 h5 hx h6 h7
                      go_wp2_with (first | (go_at_call 70; refine (rclass_any _ _).mono ?_; rintro e w' ⟨rfl, rfl⟩) | (at_builtin; refine append_byte rfl _ _ rfl w.heap.size k _ _ rfl hown _ rfl (by omega) hbw.size ?_))
                      intro v' w2 hown' hgrow
                      have hown2 := cells_next s k hlt _ HX.out ▸ hown'
                      go_wp2
                      go_roundw
                      case rel => exact ⟨k + 1, _, by omega, by go_num, hown2, (hbw.alloc hbw.size _).grown hgrow (by have := hbw.size; simp; omega) (fun g hg => (hown.lt g hg).1), Hrg.out, fun _ _ => rfl, fun h => absurd h (by omega)⟩
                      case measure => simp [intOf]; omega
            · obtain rfl : k = s.size := by omega
              have hpl2 : s.size - 1 < s.size := by omega
              have hdf : d = false := by rw [hd hpl2 hp0]; exact decide_eq_false H3.out
              have ht : s.data.toList.take s.size = s.data.toList := List.take_of_length_le (by rw [HL.out]; omega)
              rw [ht] at hrun
              rw [List.take_of_length_le (by rw [List.length_map, HL.out]; omega)] at hown
              have hq : serialB okF s.data.toList = true := by unfold serialB; rw [hrun, hdf, HL.out, decide_eq_true (by omega)]; rfl
              have He := Lib.hid (fold_some hq)
              obtain ⟨g, cap', rfl⟩ := Joins.ownsRow_form hown hp0
              have hcv : (convert 102 9 (.slice (some ⟨g, 0, none⟩) s.size cap')).run Try.prog wr = .ok (.string ⟨(s.data.toList.map cap).toArray⟩) wr := by
                have hcl := hown.cells (g := g) rfl
                have h := run_convert_bytes_back (P := Try.prog) wr 102 9 5 ⟨g, 0, none⟩ cap' (s.data.toList.map cap) Try.underlying102 Try.underlying5 Try.underlying9 (fun j hj => hcl j _ (byteCells_at _ j hj))
                rw [List.length_map, HL.out] at h
                exact h
              clear ht hq hrun hdf hd hd0
              go_wp2
              go_ret2
              exact ⟨by rw [He.out.1, He.out.2]; rfl, hbw⟩
end Go.Proofs.Ytnbmccfaomhppaa
