/- The walk of the law SerialFolds: it returns true in every world and leaves what lay there. -/
import Derived.Test.YtjkdfagkdgghpaaAwake
import Derived.Deep.RegionWith
import Derived.Deep.DeepCutAuto
import Derived.OpenShut
namespace Go.Proofs.Ytjkdfagkdgghpaa
open Go.RowKit

theorem fold_open (s : ByteArray) (w : World) : Calls Try.prog 13 #[.string s] w fun e w' => ∃ t : ByteArray, e = .returned (.tuple #[.string t, .int .i64 (foldE s.data.toList)]) ∧ Hid (t.data.toList = foldL s.data.toList) ∧ Below w.heap.size w w' :=
  (fold_any s w).mono fun _ _ ⟨he, hb⟩ => ⟨_, he, Lib.hid rfl, hb⟩

theorem fold_shut (s : ByteArray) (w : World) : Calls Try.prog 13 #[.string s] w fun e w' => ∃ (t : ByteArray) (f : Int), e = .returned (.tuple #[.string t, .int .i64 f]) ∧ Hid (t.data.toList = foldL s.data.toList ∧ f = foldE s.data.toList) ∧ Below w.heap.size w w' :=
  (fold_any s w).mono fun _ _ ⟨he, hb⟩ => ⟨_, _, he, Lib.hid ⟨rfl, rfl⟩, hb⟩

theorem okF_cap (c : UInt8) (h : okF c = true) : okF (cap c) = true := by
  unfold okF; rw [okC_cap, h]; rfl
theorem cap_cap (c : UInt8) : cap (cap c) = cap c := by
  have h1 := cap_toNat c
  unfold capOf at h1
  have h2 : ¬ (97 ≤ (cap c).toNat ∧ (cap c).toNat ≤ 122) := by split at h1 <;> omega
  generalize cap c = d at h2 ⊢
  unfold cap
  rw [if_neg h2]
theorem list_same {a b : ByteArray} (h : a.data.toList = b.data.toList) : a = b := by
  cases a with | mk a => cases b with | mk b => simp at h; rw [h]
theorem map_cap_cap (l : List UInt8) : (l.map cap).map cap = l.map cap := by
  rw [List.map_map]; exact List.map_congr_left fun c _ => cap_cap c
/-- What is folded is a serial; folded again it is itself. -/
theorem folded {l t : List UInt8} (h : serialB okF l = true) (ht : t = foldL l) : t = l.map cap ∧ serialB okC t = true ∧ serialB okF t = true ∧ foldL t = t ∧ foldE t = 0 ∧ checkOf t = 0 := by
  have e := (fold_some h).1
  rw [e] at ht
  subst ht
  have h1 : serialB okC (l.map cap) = true := by rw [serial_cap]; exact h
  have h2 := ((serial_iff _).1 h1).1
  have h3 := fold_some h2
  rw [map_cap_cap] at h3
  exact ⟨rfl, h1, h2, h3.1, h3.2, by unfold checkOf; rw [h1]; rfl⟩
theorem fold_two (l : List UInt8) : serialB okF l = true ∧ foldE l = 0 ∨ serialB okF l = false ∧ foldE l = 9 ∧ foldL l = [] := by
  cases h : serialB okF l with
  | true => exact Or.inl ⟨rfl, (fold_some h).2⟩
  | false => exact Or.inr ⟨rfl, (fold_none h).2, (fold_none h).1⟩

theorem spliced (u : ByteArray) (n : Nat) (c : UInt8) : (u.extract 0 n ++ ⟨#[c]⟩ ++ u.extract (n + 1) u.size).data.toList = u.data.toList.take n ++ c :: u.data.toList.drop (n + 1) := by
  have h : u.data.toList.length = u.size := by rw [Array.length_toList]; rfl
  simp [ByteArray.data_append, ByteArray.data_extract, Array.toList_extract, List.extract_eq_take_drop]
  have : u.data.size = u.size := rfl
  rw [List.take_of_length_le (by simp)]
theorem lower_cap (c : UInt8) (h1 : 65 ≤ c.toNat) (h2 : c.toNat ≤ 90) : cap (c + 32) = c := by
  have hs : (c + 32).toNat = c.toNat + 32 := by
    rw [UInt8.toNat_add]
    show (c.toNat + 32) % 256 = _
    omega
  unfold cap
  rw [if_pos (by omega)]
  apply UInt8.toNat_inj.1
  rw [UInt8.toNat_sub_of_le _ _ (by rw [UInt8.le_iff_toNat_le]; show 32 ≤ (c + 32).toNat; omega)]
  show (c + 32).toNat - 32 = _
  omega
/-- A capital of a serial made small folds to the same serial. -/
theorem fold_lower (u : ByteArray) (n : Nat) (hn : n < u.size) (hs : serialB okC u.data.toList = true) (h1 : 65 ≤ (u[n]'hn).toNat) (h2 : (u[n]'hn).toNat ≤ 90) :
    foldL (u.extract 0 n ++ ⟨#[u[n] + 32]⟩ ++ u.extract (n + 1) u.size).data.toList = u.data.toList ∧ foldE (u.extract 0 n ++ ⟨#[u[n] + 32]⟩ ++ u.extract (n + 1) u.size).data.toList = 0 := by
  have hall := serial_all hs
  have e : ((u.extract 0 n ++ ⟨#[u[n] + 32]⟩ ++ u.extract (n + 1) u.size).data.toList).map cap = u.data.toList := by
    rw [spliced u n, List.map_append, List.map_cons, lower_cap _ h1 h2]
    have h3 := take_drop_at u n hn
    conv => rhs; rw [h3]
    rw [map_cap_same (l := u.data.toList.take n) (fun c hc => hall c (List.mem_of_mem_take hc)), map_cap_same (l := u.data.toList.drop (n + 1)) (fun c hc => hall c (List.mem_of_mem_drop hc))]
  have hq : serialB okF (u.extract 0 n ++ ⟨#[u[n] + 32]⟩ ++ u.extract (n + 1) u.size).data.toList = true := by rw [← serial_cap, e]; exact hs
  have hf := fold_some hq
  exact ⟨by rw [hf.1, e], hf.2⟩

theorem slice_to (u : ByteArray) (i : Int) (h0 : 0 ≤ i) (h1 : i ≤ u.size) (W : World) : (Instr.slice 9 (.string u) none (some (.int .i64 i)) none).run Try.prog W = .ok (.string (u.extract 0 i.toNat)) W := by
  simp [Instr.slice, Instr.sliceBounds, Instr.sliceBound, asIntOf, run_underlying Try.underlying9, h0, h1]
theorem slice_from (u : ByteArray) (i : Int) (h0 : 0 ≤ i) (h1 : i ≤ u.size) (W : World) : (Instr.slice 9 (.string u) (some (.int .i64 i)) none none).run Try.prog W = .ok (.string (u.extract i.toNat u.size)) W := by
  simp [Instr.slice, Instr.sliceBounds, Instr.sliceBound, asIntOf, run_underlying Try.underlying9, h0, h1]

/-- A text of one byte, made of a literal of one byte in the newest block. -/
theorem conv_one (W : World) (x : Int) : (convert 44 9 (.slice (some ⟨W.heap.size, 0, none⟩) 1 1)).run Try.prog (W.alloc (.cells #[.int .u8 x] 5)).drew = .ok (.string ⟨#[UInt8.ofNat x.toNat]⟩) (W.alloc (.cells #[.int .u8 x] 5)).drew := by
  rw [run_convert_bytes_string (P := Try.prog) _ 44 9 5 _ _ _ Try.underlying44 Try.underlying5 Try.underlying9]
  have hl : (loadCells ⟨W.heap.size, 0, none⟩ 1).run Try.prog (W.alloc (.cells #[.int .u8 x] 5)).drew = .ok ([x].map (Value.int .u8)).toArray (W.alloc (.cells #[.int .u8 x] 5)).drew :=
    run_loadCells_list (P := Try.prog) _ ⟨W.heap.size, 0, none⟩ ([x].map (Value.int .u8)) (fun j v hj => by
      match j, hj with
      | 0, hj => simp at hj; subst hj; simp [Addr.add])
  exact (run_bytesToString (P := Try.prog) _ _ 1 1 [x] hl).trans rfl

set_option maxRecDepth 100000 in
set_option maxHeartbeats 2000000 in
theorem serialFolds_walk (w : World) (s : ByteArray) (_hs : s.size ≤ maxLen) (k : Int) (hk : (Lit.int .i64 k).wf = true) :
    Calls Try.prog 6 #[.string s, .int .i64 k] w fun e w' => e = .returned (.bool true) ∧ Below w.heap.size w w' := by
  have hb := Below.refl w.heap.size w
  have hk1 := Go.bounds_i64 hk
  clear hk
  by_cases h : (200 : Int) < (s.size : Int)
  · go_enter Try.func6, Try.ntmps6
    go_wp2_with (go_at_call 12; refine (awake_any _).mono ?_; rintro e w1 ⟨rfl, b1⟩; replace hb := hb.trans (b1.mono hb.size))
    go_ret
    exact ⟨rfl, hb⟩
  · rcases fold_two s.data.toList with ⟨hq, he⟩ | ⟨hq, he, hl⟩
    · have Hq := Lib.hid hq
      have He := Lib.hid he
      have e1 : (foldE s.data.toList != 0) = false := by rw [he]; rfl
      clear hq he
      go_enter Try.func6, Try.ntmps6
      go_wp2_with fail
      refine (fold_open _ _).mono ?_
      rintro e w1 ⟨t, rfl, ht, b1⟩
      replace hb := hb.trans (b1.mono hb.size)
      have HF := Lib.hid (folded Hq.out ht.out)
      have ts : t.size = s.size := by
        have := congrArg List.length HF.out.1
        rw [List.length_map, Array.length_toList, Array.length_toList] at this
        exact this
      have e2 : (foldE t.data.toList != 0) = false := by rw [HF.out.2.2.2.2.1]; rfl
      have e3 : (checkOf t.data.toList != 0) = false := by rw [HF.out.2.2.2.2.2]; rfl
      have Hts := Lib.hid ts
      have e4 : ((t.size : Int) != (s.size : Int)) = false := by rw [ts]; simp
      clear ts
      go_wp2_with fail
      refine (fold_open _ _).mono ?_
      rintro e w2 ⟨u, rfl, hu, b2⟩
      replace hb := hb.trans (b2.mono hb.size)
      obtain rfl : u = t := list_same (hu.out.trans HF.out.2.2.2.1)
      by_cases hin : 0 ≤ k ∧ k < u.size
      · obtain ⟨n, rfl⟩ : ∃ n : Nat, k = n := ⟨k.toNat, by omega⟩
        have hn : n < u.size := by omega
        have hb8 : (u[n]'hn).toNat < 256 := (u[n]'hn).toNat_lt
        by_cases hc : 65 ≤ (u[n]'hn).toNat ∧ (u[n]'hn).toNat ≤ 90
        · obtain ⟨hc1, hc2⟩ := hc
          clear hin
          go_wp2_with (first | (go_at_call 17; refine (check_any _ _).mono ?_; rintro e w3 ⟨rfl, b3⟩; replace hb := hb.trans (b3.mono hb.size)))
          have hcv := conv_one
          have hus : u.size ≤ 200 := by rw [Hts.out]; omega
          have hsum : IntKind.u8.wrap (((u[n]'hn).toNat : Int) + 32) = ((u[n]'hn).toNat : Int) + 32 := by
            exact IntWalk.u8_in _ (by omega)
          have hs1 := slice_to u (n : Int) (by omega) (by omega)
          have hs2 := slice_from u ((n : Int) + 1) (by omega) (by omega)
          have hn0 : (0 : Int) ≤ (n : Int) := by omega
          have hn1 : (n : Int) < (u.size : Int) := by omega
          have hsum2 : IntKind.i64.wrap ((n : Int) + 1) = (n : Int) + 1 := IntWalk.i64_in _ (by omega)
          have Hfl := Lib.hid (fold_lower u n hn HF.out.2.1 hc1 hc2)
          go_cut [9, 10] (fun v g wx => v = .string u ∧ g = .int .i64 0 ∧ Below w.heap.size w wx)
          case first =>
            go_region_with (go_at_call 13; refine (fold_shut _ _).mono ?_; rintro e w4 ⟨v, f, rfl, hv, b4⟩)
            all_goals
              have hvu : v = u := list_same (hv.out.1.trans Hfl.out.1)
              have hb4 := (hb.alloc hb.size (.cells #[.int .u8 (((u[n]'hn).toNat : Int) + 32)] 5)).drew.trans (b4.mono (by have := hb.size; simp; omega))
              go_wp2_with fail
              go_meet
              exact ⟨by rw [hvu], by rw [hv.out.2, Hfl.out.2], hb4⟩
          case rest =>
            obtain ⟨rfl, rfl, hb5⟩ := hcut
            replace hb := hb5
            go_wp2_with (go_at_call 12; refine (awake_any _).mono ?_; rintro e w5 ⟨rfl, b5⟩; replace hb := hb.trans (b5.mono hb.size))
            go_ret
            exact ⟨rfl, hb⟩
        · have hc' : (u[n]'hn).toNat < 65 ∨ 90 < (u[n]'hn).toNat := by omega
          clear hc hin
          rcases hc' with hc' | hc'
          · go_wp2_with (first | (go_at_call 17; refine (check_any _ _).mono ?_; rintro e w3 ⟨rfl, b3⟩; replace hb := hb.trans (b3.mono hb.size)) | (go_at_call 12; refine (awake_any _).mono ?_; rintro e w5 ⟨rfl, b5⟩; replace hb := hb.trans (b5.mono hb.size)))
            go_ret
            exact ⟨rfl, hb⟩
          · go_wp2_with (first | (go_at_call 17; refine (check_any _ _).mono ?_; rintro e w3 ⟨rfl, b3⟩; replace hb := hb.trans (b3.mono hb.size)) | (go_at_call 12; refine (awake_any _).mono ?_; rintro e w5 ⟨rfl, b5⟩; replace hb := hb.trans (b5.mono hb.size)))
            go_ret
            exact ⟨rfl, hb⟩
      · have hin' : k < 0 ∨ (u.size : Int) ≤ k := by omega
        clear hin
        rcases hin' with hin' | hin'
        · go_wp2_with (first | (go_at_call 17; refine (check_any _ _).mono ?_; rintro e w3 ⟨rfl, b3⟩; replace hb := hb.trans (b3.mono hb.size)) | (go_at_call 12; refine (awake_any _).mono ?_; rintro e w5 ⟨rfl, b5⟩; replace hb := hb.trans (b5.mono hb.size)))
          go_ret
          exact ⟨rfl, hb⟩
        · go_wp2_with (first | (go_at_call 17; refine (check_any _ _).mono ?_; rintro e w3 ⟨rfl, b3⟩; replace hb := hb.trans (b3.mono hb.size)) | (go_at_call 12; refine (awake_any _).mono ?_; rintro e w5 ⟨rfl, b5⟩; replace hb := hb.trans (b5.mono hb.size)))
          go_ret
          exact ⟨rfl, hb⟩
    · have e1 : (foldE s.data.toList != 0) = true := by rw [he]; rfl
      have Hl := Lib.hid hl
      clear hq he hl
      go_enter Try.func6, Try.ntmps6
      go_wp2_with fail
      refine (fold_open _ _).mono ?_
      rintro e w1 ⟨t, rfl, ht, b1⟩
      replace hb := hb.trans (b1.mono hb.size)
      obtain rfl : t = ⟨#[]⟩ := list_same (by rw [ht.out, Hl.out])
      go_wp2_with (go_at_call 12; refine (awake_any _).mono ?_; rintro e w5 ⟨rfl, b5⟩; replace hb := hb.trans (b5.mono hb.size))
      go_ret
      exact ⟨rfl, hb⟩
end Go.Proofs.Ytjkdfagkdgghpaa
