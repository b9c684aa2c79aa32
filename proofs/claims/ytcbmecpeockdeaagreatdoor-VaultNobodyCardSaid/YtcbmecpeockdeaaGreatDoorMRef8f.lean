/- The document's own empty and New, and what the laws fill texts with, in every world. -/
import Derived.Test.YtcbmecpeockdeaaGreatDoorActs8
import Derived.Test.YtcbmecpeockdeaaGreatDoorMInts
import Derived.Test.YtcbmecpeockdeaaGreatDoorMMap8
import Derived.Test.YtcbmecpeockdeaaGreatDoorMWrite8
import Derived.Test.YtcbmecpeockdeaaGreatDoorRef8e
import Derived.Deep.RegionHeld3
import Derived.Test.YtcbmecpeockdeaaGreatDoorProg
import Derived.Deep.AppendLies
namespace Go.Proofs.YtcbmecpeockdeaaGreatDoor
open Go.RowKit

def fillT (n : Nat) (b : UInt8) : ByteArray := ⟨(List.replicate (64 * n) b).toArray⟩
theorem fillT_size (n : Nat) (b : UInt8) : (fillT n b).size = 64 * n := by
  show (List.replicate (64 * n) b).toArray.size = _
  simp
end Go.Proofs.YtcbmecpeockdeaaGreatDoor
namespace Go.Proofs.YtcbmecpeockdeaaGreatDoor
open Go.RowKit

/-- What an act writes. -/
def AV.text (a : AV) : ByteArray := if a.num < 0 then ⟨#[115, 104, 111, 114, 116]⟩ else fillT a.num.toNat a.byte
def Dv.doA (d : Dv) (a : AV) : Dv :=
  if a.kind = 0 then d.write a.pos a.text else if a.kind = 1 then d.flush else if a.kind = 2 then d.arm a.num else if a.kind = 3 then d.off else if a.kind = 4 then d.boot a.keep a.torn a.cut else d
def Dv.doE (d : Dv) (a : AV) : Int :=
  if a.kind = 0 then d.writeE a.pos a.text else if a.kind = 1 then d.flushE else if a.kind = 2 then d.armE a.num else 0
theorem text_le (a : AV) (h : a.num ≤ 100) : a.text.size ≤ 6400 := by
  unfold AV.text
  split
  · show (5 : Nat) ≤ 6400; omega
  · rw [fillT_size]; omega
theorem Dv.Ok.write {d : Dv} (h : d.Ok) (p : Int) (t : ByteArray) : (d.write p t).Ok := by
  unfold Dv.write
  split
  · rename_i hw
    obtain ⟨_, h1, h2, _, _⟩ := (writable_iff d p t).1 hw
    obtain ⟨n, hn⟩ : ∃ n, t.size / 64 = n := ⟨_, rfl⟩
    rw [hn]
    have hr := reach_le d n
    have a0 := h.armed0
    have a1 := h.armed1
    have o0 := h.ops0
    have hra : 0 < d.armed → (d.reach n : Int) ≤ d.armed := fun h' => by
      unfold Dv.reach; split <;> omega
    refine ⟨fit_wrote h.fit _ t _ n (by omega) hr, calm_wrote h.calm _ t _, ?_, ?_, ?_, ?_, ?_⟩
    · show 0 < (Go.Proofs.YtcbmecpeockdeaaGreatDoor.wrote d.cells p.toNat t (d.reach n)).length; rw [wrote_len]; exact h.some
    · show (Go.Proofs.YtcbmecpeockdeaaGreatDoor.wrote d.cells p.toNat t (d.reach n)).length ≤ 2000; rw [wrote_len]; exact h.few
    · show 0 ≤ (if 0 < d.armed then d.armed - d.reach n else d.armed); split
      · rename_i h'; have := hra h'; omega
      · omega
    · show (if 0 < d.armed then d.armed - d.reach n else d.armed) ≤ 9223372036854775807; split <;> omega
    · show 0 ≤ d.ops + d.reach n; omega
  · exact h
theorem flushed_len (l : List Sec) : (flushed l).length = l.length := by simp [flushed]
theorem Dv.Ok.flush {d : Dv} (h : d.Ok) : d.flush.Ok := by
  unfold Dv.flush
  split
  · exact h
  · split
    · exact h.count
    · have hc := h.count
      exact ⟨fit_flushed h.fit, fun c hc _ => by obtain ⟨x, _, rfl⟩ := List.mem_map.1 hc; rfl, by show 0 < (flushed d.cells).length; rw [flushed_len]; exact h.some, by show (flushed d.cells).length ≤ 2000; rw [flushed_len]; exact h.few, hc.armed0, hc.armed1, hc.ops0⟩
theorem Dv.Ok.arm {d : Dv} (h : d.Ok) (n : Int) (hn : n ≤ 9223372036854775807) : (d.arm n).Ok := by
  unfold Dv.arm
  split
  · rename_i he
    have : 1 ≤ n := by
      unfold Dv.armE at he
      split at he
      · omega
      · split at he
        · omega
        · omega
    exact ⟨h.fit, h.calm, h.some, h.few, by show 0 ≤ n; omega, hn, h.ops0⟩
  · exact h
theorem Dv.Ok.off {d : Dv} (h : d.Ok) : d.off.Ok := ⟨h.fit, h.calm, h.some, h.few, Int.le_refl _, by show (0 : Int) ≤ _; omega, h.ops0⟩
theorem calm_booted {l : List Sec} (h : Calm l) (keep : List Bool) (torn cut : Int) (i : Nat) : Calm (booted l keep torn cut i) := by
  intro c hc
  obtain ⟨k, hk, rfl⟩ := List.getElem_of_mem hc
  have hk' : k < l.length := by rw [booted_len] at hk; exact hk
  simp only [booted, List.getElem_mapIdx]
  split
  · intro _; rfl
  · exact h _ (List.getElem_mem hk')
theorem Dv.Ok.boot {d : Dv} (h : d.Ok) (keep : List Bool) (torn cut : Int) : (d.boot keep torn cut).Ok :=
  ⟨fit_booted h.fit keep torn cut _, calm_booted h.calm keep torn cut _, by show 0 < (booted d.cells keep torn cut d.cells.length).length; rw [booted_len]; exact h.some, by show (booted d.cells keep torn cut d.cells.length).length ≤ 2000; rw [booted_len]; exact h.few, Int.le_refl _, by show (0 : Int) ≤ _; omega, h.ops0⟩
theorem Dv.Ok.doA {d : Dv} (h : d.Ok) (a : AV) (hn : a.num ≤ 9223372036854775807) : (d.doA a).Ok := by
  unfold Dv.doA
  split; exact h.write _ _
  split; exact h.flush
  split; exact h.arm _ hn
  split; exact h.off
  split; exact h.boot _ _ _
  exact h
theorem write_len (d : Dv) (p : Int) (t : ByteArray) : (d.write p t).cells.length = d.cells.length := by
  unfold Dv.write; split
  · exact wrote_len _ _ _ _
  · rfl
theorem do_len (d : Dv) (a : AV) : (d.doA a).cells.length = d.cells.length := by
  unfold Dv.doA
  split; exact write_len _ _ _
  split; (unfold Dv.flush; split; rfl; split; rfl; exact flushed_len _)
  split; (unfold Dv.arm; split <;> rfl)
  split; rfl
  split; exact booted_len _ _ _ _ _
  rfl
theorem do_ops (d : Dv) (a : AV) (hn : a.num ≤ 100) : (d.doA a).ops ≤ d.ops + 101 := by
  have ht := text_le a hn
  unfold Dv.doA
  split
  · unfold Dv.write
    split
    · have := reach_le d (a.text.size / 64)
      show d.ops + (d.reach (a.text.size / 64) : Nat) ≤ _
      omega
    · omega
  split
  · unfold Dv.flush
    split; omega
    split
    · show d.ops + 1 ≤ _; omega
    · show d.ops + 1 ≤ _; omega
  split
  · unfold Dv.arm; split
    · show d.ops ≤ _; omega
    · omega
  split
  · show d.ops ≤ _; omega
  split
  · show d.ops ≤ _; omega
  omega
end Go.Proofs.YtcbmecpeockdeaaGreatDoor
namespace Go.Proofs.YtcbmecpeockdeaaGreatDoor
open Go.RowKit Go.Maps

theorem seven_cells {w : World} {g : Nat} {a b c d e f h : Value} {t : TypeId} (hh : w.heap[g]? = some (.cells #[a, b, c, d, e, f, h] t (0, 0))) :
    w.cell? ⟨g, 0, none⟩ = some a ∧ w.cell? ⟨g, 1, none⟩ = some b ∧ w.cell? ⟨g, 2, none⟩ = some c ∧ w.cell? ⟨g, 3, none⟩ = some d ∧ w.cell? ⟨g, 4, none⟩ = some e ∧ w.cell? ⟨g, 5, none⟩ = some f ∧ w.cell? ⟨g, 6, none⟩ = some h :=
  ⟨cell_of (j := 0) hh rfl, cell_of (j := 1) hh rfl, cell_of (j := 2) hh rfl, cell_of (j := 3) hh rfl, cell_of (j := 4) hh rfl, cell_of (j := 5) hh rfl, cell_of (j := 6) hh rfl⟩
def AV.val (a : AV) : Value := .agg #[.int .i64 a.kind, .int .i64 a.pos, .int .i64 a.num, .int .u8 a.byte.toNat, .slice a.ka a.keep.length a.kc, .int .i64 a.torn, .int .i64 a.cut]
/-- Where the device lies behind an act: where it was, or, a copy, in blocks that are new. -/
def There (w : World) (b g m b2 g2 m2 : Nat) : Prop := (b2 = b ∧ g2 = g ∧ m2 = m) ∨ (w.heap.size ≤ b2 ∧ w.heap.size ≤ g2 ∧ w.heap.size ≤ m2)
end Go.Proofs.YtcbmecpeockdeaaGreatDoor
namespace Go.Proofs.YtcbmecpeockdeaaGreatDoor
open Go.RowKit Go.Maps

def AV.few (a : AV) : Bool := decide (a.num ≤ 100) && decide (a.keep.length ≤ 3000)
def fewB (l : List AV) : Bool := decide (l.length ≤ 60) && l.all AV.few
theorem Acts.at {B : Nat} {w : World} {a : Option Addr} {l : List AV} (h : Acts B w a l) {k : Nat} (hk : k < l.length) : ∃ b off, a = some ⟨b, off, none⟩ ∧ b < B ∧ (∀ i, i < 7 → w.cell? ⟨b, off + k * 7 + i, none⟩ = (actAt l k).cells[i]?) ∧ (actAt l k).Good B w := by
  rcases h with h | ⟨b, off, ha, hb, hc⟩
  · rw [h] at hk; simp at hk
  · exact ⟨b, off, ha, hb, (hc k hk).1, (hc k hk).2⟩
theorem few_take (l : List AV) (k : Nat) (h : k < l.length) : (l.take (k + 1)).all AV.few = ((l.take k).all AV.few && (actAt l k).few) := by
  rw [List.take_succ_eq_append_getElem h, List.all_append, List.all_cons, List.all_nil, Bool.and_true]
  unfold actAt
  rw [List.getD_eq_getElem?_getD, List.getElem?_eq_getElem h]; rfl
theorem few_at {l : List AV} (h : fewB l = true) : l.length ≤ 60 ∧ ∀ k, k < l.length → (actAt l k).num ≤ 100 ∧ (actAt l k).keep.length ≤ 3000 := by
  unfold fewB at h
  simp only [Bool.and_eq_true, decide_eq_true_eq, List.all_eq_true] at h
  refine ⟨h.1, fun k hk => ?_⟩
  have h2 := h.2 (actAt l k) (by unfold actAt; rw [List.getD_eq_getElem?_getD, List.getElem?_eq_getElem hk]; exact List.getElem_mem hk)
  unfold AV.few at h2
  simpa using h2

set_option maxHeartbeats 1000000 in
theorem few_any (a : Option Addr) (cap : Nat) (l : List AV) (w : World) (hA : Acts w.heap.size w a l) :
    Calls Tryz.prog 31 #[.slice a l.length cap] w fun e w' => e = .returned (.bool (fewB l)) ∧ w = w' := by
  by_cases h : 60 < l.length
  · have e1 : decide (60 < (l.length : Int)) = true := decide_eq_true (by omega)
    have hf : fewB l = false := by unfold fewB; rw [decide_eq_false (by omega)]; rfl
    rw [hf]
    clear hf hA
    go_enter Tryz.func31, Tryz.ntmps31
    go_wp2
    go_ret
    exact ⟨rfl, rfl⟩
  · have e1 : decide (60 < (l.length : Int)) = false := decide_eq_false (by omega)
    have HF : Hid (fewB l = l.all AV.few) := Lib.hid (by unfold fewB; rw [decide_eq_true (by omega)]; rfl)
    obtain ⟨n, hn⟩ : ∃ n, l.length = n := ⟨_, rfl⟩
    have HN := Lib.hid hn
    have hn60 : n ≤ 60 := by omega
    rw [hn] at e1 ⊢
    clear hn h
    have HA := Lib.hid hA
    clear hA
    go_enter Tryz.func31, Tryz.ntmps31
    go_wp2
    go_loop [3] (fun i' => ∃ i : Nat, i' = .int .i64 i ∧ i ≤ n ∧ Hid ((l.take i).all AV.few = true)) (fun i => n - (intOf i).toNat)
    case atStart => exact ⟨0, rfl, by omega, Lib.hid rfl⟩
    case round =>
      obtain ⟨i, rfl, hi, hall⟩ := hrel
      by_cases hlt : i < n
      · have i1 : (i : Int) < (n : Int) := by omega
        have hil : i < l.length := by have := HN.out; omega
        obtain ⟨b, off, rfl, hb, hc, hG⟩ := HA.out.at hil
        have c2 := hc 2 (by omega)
        have c4 := hc 4 (by omega)
        have HT := Lib.hid (few_take l i hil)
        have hbad : (actAt l i).few = false → fewB l = false := fun h => by
          have h2 := HT.out
          rw [h, Bool.and_false] at h2
          cases hh : fewB l with
          | false => rfl
          | true =>
            have h3 := (few_at hh).2 i hil
            unfold AV.few at h
            rw [decide_eq_true h3.1, decide_eq_true h3.2] at h
            cases h
        change _ = some (Value.int .i64 (actAt l i).num) at c2
        change _ = some (Value.slice (actAt l i).ka (actAt l i).keep.length (actAt l i).kc) at c4
        have hfd : (actAt l i).few = (decide ((actAt l i).num ≤ 100) && decide ((actAt l i).keep.length ≤ 3000)) := rfl
        generalize actAt l i = A at *
        have HBAD := Lib.hid hbad
        have HFD := Lib.hid hfd
        clear hbad hfd hc hG hil
        by_cases q1 : 100 < A.num
        · have d1 : decide (100 < A.num) = true := decide_eq_true q1
          have HR : Hid (fewB l = false) := Lib.hid (HBAD.out (by rw [HFD.out, decide_eq_false (by omega)]; rfl))
          clear q1
          go_wp2
          go_ret
          exact ⟨by rw [HR.out]; rfl, rfl⟩
        · have d1 : decide (100 < A.num) = false := decide_eq_false q1
          by_cases q2 : 3000 < A.keep.length
          · have d2 : decide (3000 < A.keep.length) = true := decide_eq_true q2
            have d3 : decide ((3000 : Int) < (A.keep.length : Int)) = true := decide_eq_true (by omega)
            have HR : Hid (fewB l = false) := Lib.hid (HBAD.out (by rw [HFD.out, decide_eq_false (show ¬ A.keep.length ≤ 3000 by omega), Bool.and_false]))
            clear q1 q2
            go_wp2
            go_ret
            exact ⟨by rw [HR.out]; rfl, rfl⟩
          · have d2 : decide (3000 < A.keep.length) = false := decide_eq_false q2
            have d3 : decide ((3000 : Int) < (A.keep.length : Int)) = false := decide_eq_false (by omega)
            have HR : Hid ((l.take (i + 1)).all AV.few = true) := Lib.hid (by rw [HT.out, hall.out, HFD.out, decide_eq_true (show A.num ≤ 100 by omega), decide_eq_true (show A.keep.length ≤ 3000 by omega)]; rfl)
            clear q1 q2
            go_wp2
            go_round
            case rel => exact ⟨i + 1, by go_num, by omega, HR⟩
            case measure => simp [intOf]; omega
      · obtain rfl : i = n := by omega
        have HR : Hid (fewB l = true) := Lib.hid (by have h2 := hall.out; rw [← HN.out, List.take_length] at h2; rw [HF.out, h2])
        go_wp2
        go_ret
        exact ⟨by rw [HR.out]; rfl, rfl⟩

end Go.Proofs.YtcbmecpeockdeaaGreatDoor
namespace Go.Proofs.YtcbmecpeockdeaaGreatDoor
open Go.RowKit Go.Maps

def awA : Dv := (Dv.new 4).write 1 (fillT 2 120)
def awB : Dv := awA.boot [true] 1 3
theorem aw1 : (Dv.new 4).writeE 1 (fillT 2 120) = 0 := by kernel_rfl
theorem aw2 : awA.loose = [1, 2] := by kernel_rfl
theorem aw3 : awB.readT 1 2 = fillT 1 120 ++ ⟨#[120, 120, 120]⟩ ++ (fillT 1 0).extract 3 64 := by kernel_rfl
theorem aw4 : awB.readE 1 2 = 0 := by kernel_rfl
theorem aw5 : awB.cells.length = 4 := by kernel_rfl
theorem aw6 : awB.ops = 2 := by kernel_rfl
theorem aw7 : awB.writeE 3 (fillT 2 120) = 21 := by kernel_rfl
theorem aw8 : awB.writeE 0 ⟨#[120]⟩ = 2 := by kernel_rfl
theorem aw9 : awB.dead = false := by kernel_rfl
theorem awC : awB.writable 3 (fillT 2 120) = false := by kernel_rfl

structure AwI (w : World) (b g cap m : Nat) (W : World) : Prop where
  dev : PDev W b g cap m awB
  old : Below w.heap.size w W
theorem AwI.step {w : World} {b g cap m : Nat} {W W' : World} (h : AwI w b g cap m W) (hb : Below W.heap.size W W') : AwI w b g cap m W' := ⟨h.dev.step hb, h.old.trans (hb.mono h.old.size)⟩
theorem bool_lit (w : World) (t : TypeId) : Bools (w.alloc (.cells #[.bool true] t)).heap.size (w.alloc (.cells #[.bool true] t)) (some ⟨w.heap.size, 0, none⟩) [true] := by
  refine Or.inr ⟨w.heap.size, 0, rfl, by simp, fun j hj => ?_⟩
  have : j = 0 := by simpa using hj
  subst this
  exact cell_of (j := 0) (heap_alloc_new w _) rfl
end Go.Proofs.YtcbmecpeockdeaaGreatDoor
namespace Go.Proofs.YtcbmecpeockdeaaGreatDoor
open Go.RowKit Go.Maps

/-- A block of another kind than the device's three. -/
theorem PDev.other {w : World} {b g cap m : Nat} {d : Dv} (h : PDev w b g cap m d) {k : Nat} {cs : Array Value} {t : TypeId} (hk : w.heap[k]? = some (.cells cs t (0, 0))) (h1 : t ≠ 73) (h2 : t ≠ 102) : k ≠ b ∧ k ≠ g ∧ k ≠ m := by
  obtain ⟨cur, q1, _⟩ := h.row
  obtain ⟨D, ⟨es, clock, q2, _⟩, _⟩ := h.map
  have q3 := h.box
  refine ⟨fun e => ?_, fun e => ?_, fun e => ?_⟩
  · subst e; rw [q3] at hk; injection hk with hk; injection hk with _ hk; exact h1 hk.symm
  · subst e; rw [q1] at hk; injection hk with hk; injection hk with _ hk; exact h2 hk.symm
  · subst e; rw [q2] at hk; injection hk with hk; cases hk
/-- The cells of an act, from a place on. -/
def Act7 (w : World) (b o : Nat) (A : AV) : Prop := w.cell? ⟨b, o, none⟩ = some (.int .i64 A.kind) ∧ w.cell? ⟨b, o + 1, none⟩ = some (.int .i64 A.pos) ∧ w.cell? ⟨b, o + 2, none⟩ = some (.int .i64 A.num) ∧ w.cell? ⟨b, o + 3, none⟩ = some (.int .u8 A.byte.toNat) ∧ w.cell? ⟨b, o + 4, none⟩ = some (.slice A.ka A.keep.length A.kc) ∧ w.cell? ⟨b, o + 5, none⟩ = some (.int .i64 A.torn) ∧ w.cell? ⟨b, o + 6, none⟩ = some (.int .i64 A.cut)
theorem Act7.of {w : World} {b o : Nat} {A : AV} (h : ∀ i, i < 7 → w.cell? ⟨b, o + i, none⟩ = A.cells[i]?) : Act7 w b o A := ⟨h 0 (by omega), h 1 (by omega), h 2 (by omega), h 3 (by omega), h 4 (by omega), h 5 (by omega), h 6 (by omega)⟩
theorem Act7.kept {w w' : World} {b o : Nat} {A : AV} (h : Act7 w b o A) (hb : w'.heap[b]? = w.heap[b]?) : Act7 w' b o A := by
  obtain ⟨h0, h1, h2, h3, h4, h5, h6⟩ := h
  have e : ∀ j, w'.cell? ⟨b, j, none⟩ = w.cell? ⟨b, j, none⟩ := fun j => World.cell?_of_block (w := w) (w' := w') (a := ⟨b, j, none⟩) hb
  exact ⟨(e _).trans h0, (e _).trans h1, (e _).trans h2, (e _).trans h3, (e _).trans h4, (e _).trans h5, (e _).trans h6⟩

theorem far_of {B : Nat} {w : World} {a : Option Addr} {xs : List Bool} (h : Bools B w a xs) {b g m : Nat} (h1 : B ≤ b) (h2 : B ≤ g) (h3 : B ≤ m) : Far a xs b g m := by
  rcases h with q | ⟨x, off, q1, q2, _⟩
  · exact Or.inl q
  · refine Or.inr fun y o e => ?_
    rw [q1] at e
    injection e with e
    injection e with e _
    subst e
    exact ⟨by omega, by omega, by omega⟩
end Go.Proofs.YtcbmecpeockdeaaGreatDoor
