/- The document's own Sectors, wrong and Get of frames, for every text and place, in every world. -/
import Derived.Test.YtpjahfobjnajcaaDoorRows10
import Derived.Test.YtpjahfobjnajcaaDoorScan10
import Derived.Test.YtpjahfobjnajcaaDoorBits5
import Derived.Test.YtpjahfobjnajcaaDoorRef7
namespace Go.Proofs.YtpjahfobjnajcaaDoor
open Go.RowKit

/-- A result that lies in a block of cells, and two that lie in slots. -/
theorem results_row_two {fn : Func} {p u v : Tmp} {T : TypeId} (h : fn.results = #[.cell p T, .tmp u, .tmp v]) (tmps : Array Value) (w : World) (g : Nat) (x : Value)
    (hp : tmps.getD p undef = .pointer (some ⟨g, 0, none⟩)) (hl : (loadVar T ⟨g, 0, none⟩).run Tryd.prog w = .ok x w) :
    (results fn tmps).run Tryd.prog w = .ok (.tuple #[x, tmps.getD u undef, tmps.getD v undef]) w := by
  have hp' : tmps[p]?.getD undef = .pointer (some ⟨g, 0, none⟩) := by simpa using hp
  simp only [results, h]
  simp [Sem.run_bind, Result.andThen, hp', asAddr, hl]
theorem rfr_load {w : World} {g : Nat} {t : TypeId} {x y z : Value} {fr : Nat × Nat} (h : w.heap[g]? = some (.cells #[x, y, z] t fr)) : (loadVar 28 ⟨g, 0, none⟩).run Tryd.prog w = .ok (.agg #[x, y, z]) w :=
  run_loadVar_row (P := Tryd.prog) w g t 28 #[x, y, z] fr _ h Tryd.underlying28 rfl (by kernel_rfl)
/-- What Get returns. -/
def res10 (L : List UInt8) (p : Int) : Value := .tuple #[.agg #[.int .i64 (getEp L p), .int .i64 (getSq L p), .string (tx (getB L p))], .int .i64 (getTo L p), .int .i64 (getE10 L p)]
theorem res_bad {L : List UInt8} {p e : Int} (h : getE10 L p = e) (he : e ≠ 0) : res10 L p = .tuple #[.agg #[.int .i64 0, .int .i64 0, .string ⟨#[]⟩], .int .i64 0, .int .i64 e] := by
  obtain ⟨h1, h2, h3, h4⟩ := get_bad10 (L := L) (p := p) (by rw [h]; exact he)
  unfold res10
  rw [h1, h2, h3, h4, h]
  rfl
theorem join_snoc (i : Nat) (r : List UInt8) : join10 (i + 1) r = join10 i r ++ (r.drop (64 * i + 1)).take 63 := by
  induction i generalizing r with
  | zero => unfold join10; simp [join10]
  | succ i ih =>
    conv => lhs; unfold join10
    rw [ih (r.drop 64)]
    conv => rhs; unfold join10
    rw [List.append_assoc, List.drop_drop, show 64 + (64 * i + 1) = 64 * (i + 1) + 1 by omega]

theorem rsect10_any (n : Nat) (hn : n ≤ 4611686018427387904) (w : World) :
    Calls Tryd.prog 23 #[.int .i64 n] w fun e w' => e = .returned (.int .i64 (nsec n : Nat)) ∧ w = w' := by
  have i1 : IntKind.i64.wrap ((n : Int) + 20) = (n : Int) + 20 := IntWalk.i64_in _ (by omega)
  have i2 : IntKind.i64.wrap ((n : Int) + 20 + 62) = (n : Int) + 20 + 62 := IntWalk.i64_in _ (by omega)
  have i3 : ((n : Int) + 20 + 62).tdiv 63 = ((nsec n : Nat) : Int) := by unfold nsec; rw [Int.tdiv_eq_ediv_of_nonneg (by omega)]; omega
  have i4 : IntKind.i64.wrap ((nsec n : Nat) : Int) = ((nsec n : Nat) : Int) := IntWalk.i64_in _ (by unfold nsec; omega)
  clear hn
  go_enter Tryd.func23, Tryd.ntmps23
  go_wp2
  go_ret
  exact ⟨rfl, rfl⟩
theorem rwrong10_any (ep sq : Int) (n : Nat) (w : World) :
    Calls Tryd.prog 22 #[.int .i64 ep, .int .i64 sq, .int .i64 n] w fun e w' => e = .returned (.int .i64 (wrong10 ep sq n)) ∧ w = w' := by
  have he : wrong10 ep sq n = if ep < 1 then 2 else if 1000000000 < ep then 2 else if sq < 1 then 2 else if 1000000 < sq then 2 else if 3000 < n then 3 else 0 := by
    unfold wrong10
    by_cases h1 : ep < 1
    · rw [if_pos h1, if_neg (by omega)]
    by_cases h2 : 1000000000 < ep
    · rw [if_neg h1, if_pos h2, if_neg (by omega)]
    by_cases h3 : sq < 1
    · rw [if_neg h1, if_neg h2, if_pos h3, if_neg (by omega)]
    by_cases h4 : 1000000 < sq
    · rw [if_neg h1, if_neg h2, if_neg h3, if_pos h4, if_neg (by omega)]
    · rw [if_neg h1, if_neg h2, if_neg h3, if_neg h4, if_pos (by omega)]
  rw [he]
  clear he
  by_cases h1 : ep < 1
  · have d1 : decide (ep < 1) = true := decide_eq_true h1
    rw [if_pos h1]
    clear h1
    go_enter Tryd.func22, Tryd.ntmps22
    go_wp2
    go_ret
    exact ⟨rfl, rfl⟩
  have d1 : decide (ep < 1) = false := decide_eq_false h1
  rw [if_neg h1]
  by_cases h2 : 1000000000 < ep
  · have d2 : decide (1000000000 < ep) = true := decide_eq_true h2
    rw [if_pos h2]
    clear h1 h2
    go_enter Tryd.func22, Tryd.ntmps22
    go_wp2
    go_ret
    exact ⟨rfl, rfl⟩
  have d2 : decide (1000000000 < ep) = false := decide_eq_false h2
  rw [if_neg h2]
  by_cases h3 : sq < 1
  · have d3 : decide (sq < 1) = true := decide_eq_true h3
    rw [if_pos h3]
    clear h1 h2 h3
    go_enter Tryd.func22, Tryd.ntmps22
    go_wp2
    go_ret
    exact ⟨rfl, rfl⟩
  have d3 : decide (sq < 1) = false := decide_eq_false h3
  rw [if_neg h3]
  by_cases h4 : 1000000 < sq
  · have d4 : decide (1000000 < sq) = true := decide_eq_true h4
    rw [if_pos h4]
    clear h1 h2 h3 h4
    go_enter Tryd.func22, Tryd.ntmps22
    go_wp2
    go_ret
    exact ⟨rfl, rfl⟩
  have d4 : decide (1000000 < sq) = false := decide_eq_false h4
  rw [if_neg h4]
  by_cases h5 : 3000 < n
  · have d5 : decide (3000 < (n : Int)) = true := decide_eq_true (by omega)
    rw [if_pos h5]
    clear h1 h2 h3 h4 h5
    go_enter Tryd.func22, Tryd.ntmps22
    go_wp2
    go_ret
    exact ⟨rfl, rfl⟩
  have d5 : decide (3000 < (n : Int)) = false := decide_eq_false (by omega)
  rw [if_neg h5]
  clear h1 h2 h3 h4 h5
  go_enter Tryd.func22, Tryd.ntmps22
  go_wp2
  go_ret
  exact ⟨rfl, rfl⟩

/-- The three numbers at the head of a sector, as the calls of layer 5 read them. -/
theorem nums10 (L : List UInt8) (q : Nat) (h : 64 * q + 64 ≤ L.length) :
    getE L ((64 * q + 1 : Nat) : Int) 8 = (if 127 < ((L.drop (64 * q)).getD 1 0).toNat then 8 else 0) ∧
    (¬ 127 < ((L.drop (64 * q)).getD 1 0).toNat → getV L ((64 * q + 1 : Nat) : Int) 8 = (ep10 (L.drop (64 * q)) : Int) ∧ getT L ((64 * q + 1 : Nat) : Int) 8 = ((64 * q + 9 : Nat) : Int)) ∧
    getE L ((64 * q + 9 : Nat) : Int) 4 = 0 ∧ getV L ((64 * q + 9 : Nat) : Int) 4 = (sq10 (L.drop (64 * q)) : Int) ∧ getT L ((64 * q + 9 : Nat) : Int) 4 = ((64 * q + 13 : Nat) : Int) ∧
    getE L ((64 * q + 13 : Nat) : Int) 4 = 0 ∧ getV L ((64 * q + 13 : Nat) : Int) 4 = (n10 (L.drop (64 * q)) : Int) ∧ getT L ((64 * q + 13 : Nat) : Int) 4 = ((64 * q + 17 : Nat) : Int) := by
  have hd : (L.drop (64 * q)).getD 1 0 = L.getD (64 * q + 1) 0 := by
    rw [List.getD_eq_getElem?_getD, List.getD_eq_getElem?_getD, List.getElem?_drop]
  have h1 : getE L ((64 * q + 1 : Nat) : Int) 8 = (if 127 < ((L.drop (64 * q)).getD 1 0).toNat then 8 else 0) := by
    unfold getE
    rw [if_pos ⟨by unfold wideW; omega, by omega, by omega⟩, if_neg (by omega), Int.toNat_natCast, hd]
    by_cases c : 127 < (L.getD (64 * q + 1) 0).toNat
    · rw [if_pos ⟨rfl, c⟩, if_pos c]
    · rw [if_neg (fun x => c x.2), if_neg c]
  have h2 : getE L ((64 * q + 9 : Nat) : Int) 4 = 0 := by
    unfold getE
    rw [if_pos ⟨by unfold wideW; omega, by omega, by omega⟩, if_neg (by omega), if_neg (by omega)]
  have h3 : getE L ((64 * q + 13 : Nat) : Int) 4 = 0 := by
    unfold getE
    rw [if_pos ⟨by unfold wideW; omega, by omega, by omega⟩, if_neg (by omega), if_neg (by omega)]
  refine ⟨h1, fun c => ?_, h2, ?_, ?_, h3, ?_, ?_⟩
  · have h0 : getE L ((64 * q + 1 : Nat) : Int) 8 = 0 := by rw [h1, if_neg c]
    refine ⟨?_, ?_⟩
    · unfold getV ep10; rw [if_pos h0, Int.toNat_natCast, List.drop_drop]; rfl
    · unfold getT; rw [if_pos h0]; omega
  · unfold getV sq10; rw [if_pos h2, Int.toNat_natCast, List.drop_drop]; rfl
  · unfold getT; rw [if_pos h2]; omega
  · unfold getV n10; rw [if_pos h3, Int.toNat_natCast, List.drop_drop]; rfl
  · unfold getT; rw [if_pos h3]; omega
end Go.Proofs.YtpjahfobjnajcaaDoor
