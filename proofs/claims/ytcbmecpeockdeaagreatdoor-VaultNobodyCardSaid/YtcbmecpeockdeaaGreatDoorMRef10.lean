/- The document's own Sectors, wrong and Get of frames, for every text and place, in every world. -/
import Derived.Test.YtcbmecpeockdeaaGreatDoorBits5
import Derived.Test.YtcbmecpeockdeaaGreatDoorMByte
import Derived.Test.YtcbmecpeockdeaaGreatDoorRef7
import Derived.Test.YtcbmecpeockdeaaGreatDoorRows10
namespace Go.Proofs.YtcbmecpeockdeaaGreatDoor
open Go.RowKit

/-- A result that lies in a block of cells, and two that lie in slots. -/
theorem results_row_two {fn : Func} {p u v : Tmp} {T : TypeId} (h : fn.results = #[.cell p T, .tmp u, .tmp v]) (tmps : Array Value) (w : World) (g : Nat) (x : Value)
    (hp : tmps.getD p undef = .pointer (some ⟨g, 0, none⟩)) (hl : (loadVar T ⟨g, 0, none⟩).run Tryz.prog w = .ok x w) :
    (results fn tmps).run Tryz.prog w = .ok (.tuple #[x, tmps.getD u undef, tmps.getD v undef]) w := by
  have hp' : tmps[p]?.getD undef = .pointer (some ⟨g, 0, none⟩) := by simpa using hp
  simp only [results, h]
  simp [Sem.run_bind, Result.andThen, hp', asAddr, hl]
/-- What Get returns. -/
def res10 (L : List UInt8) (p : Int) : Value := .tuple #[.agg #[.int .i64 (getEp L p), .int .i64 (getSq L p), .string (tx (getB L p))], .int .i64 (getTo L p), .int .i64 (getE10 L p)]
theorem res_bad {L : List UInt8} {p e : Int} (h : getE10 L p = e) (he : e ≠ 0) : res10 L p = .tuple #[.agg #[.int .i64 0, .int .i64 0, .string ⟨#[]⟩], .int .i64 0, .int .i64 e] := by
  obtain ⟨h1, h2, h3, h4⟩ := get_bad10 (L := L) (p := p) (by rw [h]; exact he)
  unfold res10
  rw [h1, h2, h3, h4, h]
  rfl
theorem join_snoc (i : Nat) (r : List UInt8) : join10 (i + 1) r = join10 i r ++ (r.drop (64 * i + 1)).take 63 := by
  induction i generalizing r with
  | zero => unfold join10; simp [join10]
  | succ i ih =>
    conv => lhs; unfold join10
    rw [ih (r.drop 64)]
    conv => rhs; unfold join10
    rw [List.append_assoc, List.drop_drop, show 64 + (64 * i + 1) = 64 * (i + 1) + 1 by omega]

/-- The three numbers at the head of a sector, as the calls of layer 5 read them. -/
theorem nums10 (L : List UInt8) (q : Nat) (h : 64 * q + 64 ≤ L.length) :
    getE L ((64 * q + 1 : Nat) : Int) 8 = (if 127 < ((L.drop (64 * q)).getD 1 0).toNat then 8 else 0) ∧
    (¬ 127 < ((L.drop (64 * q)).getD 1 0).toNat → getV L ((64 * q + 1 : Nat) : Int) 8 = (ep10 (L.drop (64 * q)) : Int) ∧ getT L ((64 * q + 1 : Nat) : Int) 8 = ((64 * q + 9 : Nat) : Int)) ∧
    getE L ((64 * q + 9 : Nat) : Int) 4 = 0 ∧ getV L ((64 * q + 9 : Nat) : Int) 4 = (sq10 (L.drop (64 * q)) : Int) ∧ getT L ((64 * q + 9 : Nat) : Int) 4 = ((64 * q + 13 : Nat) : Int) ∧
    getE L ((64 * q + 13 : Nat) : Int) 4 = 0 ∧ getV L ((64 * q + 13 : Nat) : Int) 4 = (n10 (L.drop (64 * q)) : Int) ∧ getT L ((64 * q + 13 : Nat) : Int) 4 = ((64 * q + 17 : Nat) : Int) := by
  have hd : (L.drop (64 * q)).getD 1 0 = L.getD (64 * q + 1) 0 := by
    rw [List.getD_eq_getElem?_getD, List.getD_eq_getElem?_getD, List.getElem?_drop]
  have h1 : getE L ((64 * q + 1 : Nat) : Int) 8 = (if 127 < ((L.drop (64 * q)).getD 1 0).toNat then 8 else 0) := by
    unfold getE
    rw [if_pos ⟨by unfold wideW; omega, by omega, by omega⟩, if_neg (by omega), Int.toNat_natCast, hd]
    by_cases c : 127 < (L.getD (64 * q + 1) 0).toNat
    · rw [if_pos ⟨rfl, c⟩, if_pos c]
    · rw [if_neg (fun x => c x.2), if_neg c]
  have h2 : getE L ((64 * q + 9 : Nat) : Int) 4 = 0 := by
    unfold getE
    rw [if_pos ⟨by unfold wideW; omega, by omega, by omega⟩, if_neg (by omega), if_neg (by omega)]
  have h3 : getE L ((64 * q + 13 : Nat) : Int) 4 = 0 := by
    unfold getE
    rw [if_pos ⟨by unfold wideW; omega, by omega, by omega⟩, if_neg (by omega), if_neg (by omega)]
  refine ⟨h1, fun c => ?_, h2, ?_, ?_, h3, ?_, ?_⟩
  · have h0 : getE L ((64 * q + 1 : Nat) : Int) 8 = 0 := by rw [h1, if_neg c]
    refine ⟨?_, ?_⟩
    · unfold getV ep10; rw [if_pos h0, Int.toNat_natCast, List.drop_drop]; rfl
    · unfold getT; rw [if_pos h0]; omega
  · unfold getV sq10; rw [if_pos h2, Int.toNat_natCast, List.drop_drop]; rfl
  · unfold getT; rw [if_pos h2]; omega
  · unfold getV n10; rw [if_pos h3, Int.toNat_natCast, List.drop_drop]; rfl
  · unfold getT; rw [if_pos h3]; omega
end Go.Proofs.YtcbmecpeockdeaaGreatDoor
namespace Go.Proofs.YtcbmecpeockdeaaGreatDoor
open Go.RowKit

theorem own_on {w w' : World} {B k : Nat} {e : TypeId} {v : Value} {xs : List Value} (h : w.ownsRow B e 1 v k xs) (hb : Below w.heap.size w w') : w'.ownsRow B e 1 v k xs := by
  refine ⟨h.1, ?_⟩
  rcases h.2 with h1 | ⟨g, cap, cur, h1, h2, h3, h4⟩
  · exact Or.inl h1
  · exact Or.inr ⟨g, cap, cur, h1, h2, old_obj hb h3, h4⟩
end Go.Proofs.YtcbmecpeockdeaaGreatDoor
namespace Go.Proofs.YtcbmecpeockdeaaGreatDoor
open Go.RowKit

/-- The program's four functions answer as the plain words say, in every world with the trait T, which lasts while nothing old changes. -/
structure Frame10 (T : World → Prop) : Prop where
  below : ∀ {w w' : World}, T w → Below w.heap.size w w' → T w'
  sect : ∀ (t : ByteArray), t.size ≤ 281474976710656 → ∀ w, Calls Tryz.prog 43 #[.string t] w fun e w' => e = .returned (.int .i64 (nsec t.size : Nat)) ∧ Below w.heap.size w w'
  put : ∀ (ep sq : Int) (t : ByteArray), t.size ≤ 281474976710656 → ∀ w, T w → Calls Tryz.prog 53 #[.agg #[.int .i64 ep, .int .i64 sq, .string t]] w fun e w' => e = .returned (.tuple #[.string (tx (putL10 ep sq t.data.toList)), .int .i64 (wrong10 ep sq t.size)]) ∧ Below w.heap.size w w'
  get : ∀ (s : ByteArray) (p : Int), s.size ≤ 281474976710656 → -9223372036854775808 ≤ p → p ≤ 9223372036854775807 → ∀ w, T w → Calls Tryz.prog 95 #[.string s, .int .i64 p] w fun e w' => e = .returned (res10 s.data.toList p) ∧ Below w.heap.size w w'
  scan : ∀ (s : ByteArray) (ep : Int), s.size ≤ 281474976710656 → ∀ w, T w → Calls Tryz.prog 50 #[.string s, .int .i64 ep] w fun e w' => ∃ a c, e = .returned (.tuple #[.slice a (scanV s.data.toList ep).1.length c, .int .i64 ((scanV s.data.toList ep).2 : Nat)]) ∧ (scanV s.data.toList ep).1.length ≤ c ∧ Txs w.heap.size w'.heap.size w' a (scanV s.data.toList ep).1 ∧ Below w.heap.size w w'
/-- No more sectors than there are. -/
theorem scan_len (L : List UInt8) (ep : Int) : (scanV L ep).1.length ≤ (scanV L ep).2 := by
  rw [(scanV_sum L ep).1]
  generalize (scanV L ep).1 = xs
  induction xs with
  | nil => exact Nat.le_refl _
  | cons x xs ih =>
    have := nsec_up x.length
    simp only [List.map_cons, List.sum_cons, List.length_cons]
    omega

end Go.Proofs.YtcbmecpeockdeaaGreatDoor
namespace Go.Proofs.YtcbmecpeockdeaaGreatDoor
open Go.RowKit

theorem putL_good {ep sq : Int} {b : List UInt8} (h : wrong10 ep sq b.length = 0) : putL10 ep sq b = put10 ep sq b := by unfold putL10; rw [if_pos h]
theorem putL_bad {ep sq : Int} {b : List UInt8} (h : wrong10 ep sq b.length ≠ 0) : putL10 ep sq b = [] := by unfold putL10; rw [if_neg h]
end Go.Proofs.YtcbmecpeockdeaaGreatDoor
