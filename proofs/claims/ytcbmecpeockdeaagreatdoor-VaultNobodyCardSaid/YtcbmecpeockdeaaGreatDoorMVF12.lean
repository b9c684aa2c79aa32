/- The law's acts that come in: a slice of structs of a number, a text and an act of a device; and the law's bound on them. -/
import Derived.Test.YtcbmecpeockdeaaGreatDoorActs8
import Derived.Test.YtcbmecpeockdeaaGreatDoorMRef8f
import Derived.Test.YtcbmecpeockdeaaGreatDoorMVD12
namespace Go.Proofs.YtcbmecpeockdeaaGreatDoor
open Go.RowKit Go.ChangeShapes Go.Deep Go.Maps

structure AW where
  kind : Int
  text : ByteArray
  own : AV
def AW.cells (a : AW) : List Value := .int .i64 a.kind :: .string a.text :: a.own.cells
def noActW : AW := ⟨0, ⟨#[]⟩, noAct⟩
structure AW.Good (B : Nat) (w : World) (a : AW) : Prop where
  text : a.text.size ≤ maxLen
  own : a.own.Good B w
def actW (l : List AW) (i : Nat) : AW := l.getD i noActW
/-- A slice value whose elements are just these acts; its cells lie below block B. -/
def ActsW (B : Nat) (w : World) (a : Option Addr) (l : List AW) : Prop :=
  l = [] ∨ ∃ b off, a = some ⟨b, off, none⟩ ∧ b < B ∧ ∀ j, j < l.length → (∀ i, i < 9 → w.cell? ⟨b, off + j * 9 + i, none⟩ = (actW l j).cells[i]?) ∧ (actW l j).Good B w
theorem AW.Good.below {B : Nat} {w w' : World} {a : AW} (h : a.Good B w) (hb : Below B w w') : a.Good B w' := ⟨h.text, h.own.below hb⟩
theorem ActsW.below {B : Nat} {w w' : World} {a : Option Addr} {l : List AW} (h : ActsW B w a l) (hb : Below B w w') : ActsW B w' a l := by
  rcases h with h | ⟨b, off, ha, hB, hc⟩
  · exact Or.inl h
  · exact Or.inr ⟨b, off, ha, hB, fun j hj => ⟨fun i hi => (hb.cell (p := ⟨b, off + j * 9 + i, none⟩) hB).trans ((hc j hj).1 i hi), (hc j hj).2.below hb⟩⟩
theorem ActsW.at {B : Nat} {w : World} {a : Option Addr} {l : List AW} (h : ActsW B w a l) {k : Nat} (hk : k < l.length) : ∃ b off, a = some ⟨b, off, none⟩ ∧ b < B ∧ (∀ i, i < 9 → w.cell? ⟨b, off + k * 9 + i, none⟩ = (actW l k).cells[i]?) ∧ (actW l k).Good B w := by
  rcases h with h | ⟨b, off, ha, hb, hc⟩
  · rw [h] at hk; simp at hk
  · exact ⟨b, off, ha, hb, (hc k hk).1, (hc k hk).2⟩
theorem three_parts12 {cs : List Value} {a b : Value} {r : List Value} (hl : cs.length = 9) (h0 : (cs.drop 0).take 1 = [a]) (h1 : (cs.drop 1).take 1 = [b]) (h2 : (cs.drop 2).take 7 = r) : cs = a :: b :: r := by
  match cs, hl with
  | [_, _, _, _, _, _, _, _, _], _ => simp at h0 h1 h2; simp [h0, h1, ← h2]
/-- The cells of one act, read as the form reads them. -/
theorem actw_cells {H : Type} {enc : TypeId × Value → H} {base : Nat} {held : Bool} {fuel : Nat} {cs : List Value} {W : World} {x : DataW H × List MemPlace} {e i s o : TypeId} {f0 f1 f2 : Field}
    (he : Tryz.prog.underlying e = some (.struct #[f0, f1, f2])) (hi : Tryz.prog.underlying i = some (.int .i64)) (hs : Tryz.prog.underlying s = some .string) (ho : o = 44)
    (hac : Tryz.prog.cellsOf e = 9) (hic : Tryz.prog.cellsOf i = 1) (hsc : Tryz.prog.cellsOf s = 1) (hoc : Tryz.prog.cellsOf o = 7) (t0 : f0.type = i) (t1 : f1.type = s) (t2 : f2.type = o) (o0 : f0.offset = 0) (o1 : f1.offset = 1) (o2 : f2.offset = 2)
    (h : DataW.trod enc Tryz.prog W base (fun _ => true) held fuel e cs = some x) :
    ∃ a : AW, cs = a.cells ∧ a.Good W.heap.size W := by
  obtain ⟨xs, n, _, _, hlen, hxl, hg⟩ := DataW.trod_struct he h
  have g0 := hg 0 f0 rfl
  have g1 := hg 1 f1 rfl
  have g2 := hg 2 f2 rfl
  rw [t0, o0, hic] at g0
  rw [t1, o1, hsc] at g1
  rw [t2, o2, hoc] at g2
  match xs, hxl with
  | [y0, y1, y2], _ =>
    obtain ⟨n0, e0, _, _⟩ := DataW.trod_int hi g0
    obtain ⟨n1, e1, _, w1⟩ := DataW.trod_string hs g1
    subst ho
    obtain ⟨q, e2, hq⟩ := act_here g2
    rw [hac] at hlen
    exact ⟨⟨n0, n1, q⟩, three_parts12 hlen e0 e1 e2, ⟨w1, hq⟩⟩
theorem actw_here {H : Type} {enc : TypeId × Value → H} {base : Nat} {held : Bool} {fuel : Nat} {cs : List Value} {W : World} {x : DataW H × List MemPlace} (h : DataW.trod enc Tryz.prog W base (fun _ => true) held fuel 46 cs = some x) :
    ∃ a : AW, cs = a.cells ∧ a.Good W.heap.size W :=
  actw_cells Tryz.underlying46 Tryz.underlying3 Tryz.underlying9 rfl (by kernel_rfl) (by kernel_rfl) (by kernel_rfl) (by kernel_rfl) rfl rfl rfl rfl rfl rfl h
/-- A slice of such acts that came in, read as the form reads it. -/
theorem actsw_of {H : Type} {enc : TypeId × Value → H} {base : Nat} {held : Bool} {fuel : Nat} {a : Option Addr} {len cap : Nat} {W : World} {x : DataW H × List MemPlace}
    (h : DataW.trod enc Tryz.prog W base (fun _ => true) held fuel 36 (Value.slice a len cap).cells.toList = some x) :
    ∃ l : List AW, l.length = len ∧ l.length ≤ maxLen ∧ ActsW W.heap.size W a l := by
  have hac : Tryz.prog.cellsOf 46 = 9 := by kernel_rfl
  rcases open_slice Tryz.underlying36 h with ⟨hcs, _⟩ | ⟨y, n, c, m, fu, D, Pl, hcs, _, hl, hm, hmm, _, hel⟩
  · simp [Value.cells] at hcs
    obtain ⟨rfl, rfl, rfl⟩ := hcs
    exact ⟨[], rfl, by simp, Or.inl rfl⟩
  · simp [Value.cells] at hcs
    obtain ⟨rfl, rfl, rfl⟩ := hcs
    have hm2 : m = cap := by rw [hmm]; simp
    have key : ∀ j, j < len → ∃ p : AW, (∀ i, i < 9 → W.cell? ((y.add (j * 9)).add i) = p.cells[i]?) ∧ p.Good W.heap.size W := by
      intro j hj
      obtain ⟨cs, hcl, htr⟩ := hel j (by omega)
      rw [hac] at hcl
      obtain ⟨_, hlen, hat⟩ := World.cells?_some hcl
      obtain ⟨p, rfl, hg⟩ := actw_here htr
      refine ⟨p, fun i hi => ?_, hg⟩
      have := hat i (by omega)
      rw [this]
    obtain ⟨l, hll, hp⟩ := list_of8 noActW len _ key
    refine ⟨l, hll, by omega, ?_⟩
    rcases Nat.eq_zero_or_pos len with h0 | h0
    · exact Or.inl (List.length_eq_zero_iff.1 (by omega))
    · obtain ⟨b, off, spot⟩ := y
      have hc0 := (hp 0 h0).1 0 (by omega)
      have hc1 : W.cell? (((⟨b, off, spot⟩ : Addr).add (0 * 9)).add 0) = some (.int .i64 (l.getD 0 noActW).kind) := hc0
      have hspot : spot = none := by simpa [Addr.add] using World.cell?_spot hc1
      subst hspot
      refine Or.inr ⟨b, off, rfl, ?_, fun j hj => ⟨fun i hi => ?_, (hp j (by omega)).2⟩⟩
      · rcases Nat.lt_or_ge b W.heap.size with h' | h'
        · exact h'
        · rw [World.cell?] at hc1
          simp [Addr.add, Array.getElem?_eq_none h'] at hc1
      · have := (hp j (by omega)).1 i hi
        rw [add_lies8, add_lies8] at this
        exact this
/-- The law's bound. -/
def AW.few (a : AW) : Bool := decide (a.text.size ≤ 3100) && fewB [a.own] && !decide (a.kind = 5) && !decide (a.own.kind = 5)
def fewW (l : List AW) : Bool := decide (l.length ≤ 40) && l.all AW.few
theorem fewW_take (l : List AW) (k : Nat) (h : k < l.length) : (l.take (k + 1)).all AW.few = ((l.take k).all AW.few && (actW l k).few) := by
  rw [List.take_succ_eq_append_getElem h, List.all_append, List.all_cons, List.all_nil, Bool.and_true]
  unfold actW
  rw [List.getD_eq_getElem?_getD, List.getElem?_eq_getElem h]; rfl
theorem fewW_at {l : List AW} (h : fewW l = true) : l.length ≤ 40 ∧ ∀ k, k < l.length → (actW l k).few = true := by
  unfold fewW at h
  simp only [Bool.and_eq_true, decide_eq_true_eq, List.all_eq_true] at h
  exact ⟨h.1, fun k hk => h.2 (actW l k) (by unfold actW; rw [List.getD_eq_getElem?_getD, List.getElem?_eq_getElem hk]; exact List.getElem_mem hk)⟩
theorem fewW_text {a : AW} (h : a.few = true) : a.text.size ≤ 3100 := by
  unfold AW.few at h
  simp only [Bool.and_eq_true, decide_eq_true_eq] at h
  exact h.1.1.1
theorem AV.own_cells {w : World} {g : Nat} {a : AV} (h : w.heap[g]? = some (.cells a.cells.toArray 44 (0, 0))) (B : Nat) (hg : g < B) (hG : a.Good B w) : Acts B w (some ⟨g, 0, none⟩) [a] := by
  refine Or.inr ⟨g, 0, rfl, hg, fun j hj => ?_⟩
  obtain rfl : j = 0 := by simp at hj; omega
  refine ⟨fun i hi => ?_, hG⟩
  have e : actAt [a] 0 = a := rfl
  rw [e]
  have h2 : a.cells.toArray[i]? = a.cells[i]? := by simp
  have h3 : i < a.cells.length := by unfold AV.cells; simp; omega
  rw [show (0 + 0 * 7 + i) = i by omega, List.getElem?_eq_getElem h3]
  exact cell_of (j := i) h (by rw [h2, List.getElem?_eq_getElem h3])
set_option maxRecDepth 100000 in
set_option maxHeartbeats 2000000 in
theorem fewW_any (a : Option Addr) (cap : Nat) (l : List AW) (w : World) (hA : ActsW w.heap.size w a l) :
    Calls Tryz.prog 14 #[.slice a l.length cap] w fun e w' => e = .returned (.bool (fewW l)) ∧ Below w.heap.size w w' := by
  by_cases h : 40 < l.length
  · have e1 : decide (40 < (l.length : Int)) = true := decide_eq_true (by omega)
    have hf : fewW l = false := by unfold fewW; rw [decide_eq_false (by omega)]; rfl
    rw [hf]
    clear hf hA
    go_enter Tryz.func14, Tryz.ntmps14
    go_wp2
    go_ret
    exact ⟨rfl, Below.refl _ _⟩
  · have e1 : decide (40 < (l.length : Int)) = false := decide_eq_false (by omega)
    have HF : Hid (fewW l = l.all AW.few) := Lib.hid (by unfold fewW; rw [decide_eq_true (by omega)]; rfl)
    obtain ⟨n, hn⟩ : ∃ n, l.length = n := ⟨_, rfl⟩
    have HN := Lib.hid hn
    have hn40 : n ≤ 40 := by omega
    rw [hn] at e1 ⊢
    clear hn h
    have HA := Lib.hid hA
    clear hA
    go_enter Tryz.func14, Tryz.ntmps14
    go_wp2
    go_loopw [3] (fun i' wr => ∃ i : Nat, i' = .int .i64 i ∧ i ≤ n ∧ Hid ((l.take i).all AW.few = true) ∧ Hid (Below w.heap.size w wr)) (fun i _ => n - (intOf i).toNat)
    case atStart => exact ⟨0, rfl, by omega, Lib.hid rfl, Lib.hid (Below.refl _ _)⟩
    case round =>
      obtain ⟨i, rfl, hi, hall, HW⟩ := hrel
      by_cases hlt : i < n
      · have i1 : (i : Int) < (n : Int) := by omega
        have i3 : (0 : Int) ≤ (i : Int) := by omega
        have hil : i < l.length := by have := HN.out; omega
        obtain ⟨b, off, rfl, hb, hc, hG⟩ := (HA.out.below HW.out).at hil
        have c0 := hc 0 (by omega)
        have c1 := hc 1 (by omega)
        have c2 := hc 2 (by omega)
        have c3 := hc 3 (by omega)
        have c4 := hc 4 (by omega)
        have c5 := hc 5 (by omega)
        have c6 := hc 6 (by omega)
        have c7 := hc 7 (by omega)
        have c8 := hc 8 (by omega)
        have HT := Lib.hid (fewW_take l i hil)
        have hbad : (actW l i).few = false → fewW l = false := fun h => by
          have h2 := HT.out
          cases hh : fewW l with
          | false => rfl
          | true =>
            have h3 := (fewW_at hh).2 i hil
            rw [h] at h3
            cases h3
        change _ = some (Value.int .i64 (actW l i).kind) at c0
        change _ = some (Value.string (actW l i).text) at c1
        change _ = some (Value.int .i64 (actW l i).own.kind) at c2
        change _ = some (Value.int .i64 (actW l i).own.pos) at c3
        change _ = some (Value.int .i64 (actW l i).own.num) at c4
        change _ = some (Value.int .u8 (actW l i).own.byte.toNat) at c5
        change _ = some (Value.slice (actW l i).own.ka (actW l i).own.keep.length (actW l i).own.kc) at c6
        change _ = some (Value.int .i64 (actW l i).own.torn) at c7
        change _ = some (Value.int .i64 (actW l i).own.cut) at c8
        have hfd : (actW l i).few = (decide ((actW l i).text.size ≤ 3100) && fewB [(actW l i).own] && !decide ((actW l i).kind = 5) && !decide ((actW l i).own.kind = 5)) := rfl
        generalize actW l i = A at *
        have HBAD := Lib.hid hbad
        have HFD := Lib.hid hfd
        have HG := Lib.hid (hG.own.below (Below.refl _ _))
        clear hbad hfd hc hG hil
        have HKA : Hid (∀ v, Below wr.heap.size wr v → v.cell? ⟨b, off + i * 9, none⟩ = some (.int .i64 A.kind) ∧ v.cell? ⟨b, off + i * 9 + 2, none⟩ = some (.int .i64 A.own.kind)) := Lib.hid fun v hv => ⟨(hv.cell (p := ⟨b, off + i * 9, none⟩) (by have := HW.out.size; show b < _; omega)).trans c0, (hv.cell (p := ⟨b, off + i * 9 + 2, none⟩) (by have := HW.out.size; show b < _; omega)).trans c2⟩
        have hfw : Calls Tryz.prog 31 #[.slice (some ⟨wr.heap.size, 0, none⟩) 1 1] (wr.alloc (.cells #[.int .i64 A.own.kind, .int .i64 A.own.pos, .int .i64 A.own.num, .int .u8 A.own.byte.toNat, .slice A.own.ka A.own.keep.length A.own.kc, .int .i64 A.own.torn, .int .i64 A.own.cut] 44)) fun e w' => e = .returned (.bool (fewB [A.own])) ∧ Below wr.heap.size wr w' := by
          obtain ⟨W, hW⟩ : ∃ W, W = wr.alloc (.cells A.own.cells.toArray 44) := ⟨_, rfl⟩
          have b0 : Below wr.heap.size wr W := by rw [hW]; exact (Below.refl _ wr).alloc (Nat.le_refl _) _
          have z0 : W.heap[wr.heap.size]? = some (.cells A.own.cells.toArray 44 (0, 0)) := by rw [hW]; exact heap_alloc_new wr _
          have hs := HW.out.size
          have hg2 : A.own.Good W.heap.size W := ⟨HG.out.pos, HG.out.num, ((HG.out.keep.below (b0.mono hs)).up (by have := b0.size; omega)), HG.out.few⟩
          have := few_any (some ⟨wr.heap.size, 0, none⟩) 1 [A.own] W (AV.own_cells z0 _ (obj_lt z0) hg2)
          rw [hW] at this
          refine this.mono fun e w' ⟨x, y⟩ => ⟨x, ?_⟩
          rw [← y, ← hW]
          exact b0
        obtain ⟨FB, hFB⟩ : ∃ FB, fewB [A.own] = FB := ⟨_, rfl⟩
        rw [hFB] at hfw
        have HFB := Lib.hid hFB
        clear hFB
        by_cases q1 : 3100 < A.text.size
        · have d1 : decide (3100 < A.text.size) = true := decide_eq_true q1
          have d2 : decide ((3100 : Int) < (A.text.size : Int)) = true := decide_eq_true (by omega)
          have HR : Hid (fewW l = false) := Lib.hid (HBAD.out (by rw [HFD.out, decide_eq_false (by omega)]; rfl))
          clear q1 hfw
          go_wp2
          go_ret
          exact ⟨by rw [HR.out]; rfl, HW.out⟩
        · have d1 : decide (3100 < A.text.size) = false := decide_eq_false q1
          have d2 : decide ((3100 : Int) < (A.text.size : Int)) = false := decide_eq_false (by omega)
          have HR1 : Hid (A.few = (FB && !decide (A.kind = 5) && !decide (A.own.kind = 5))) := Lib.hid (by rw [HFD.out, HFB.out, decide_eq_true (by omega)]; simp)
          clear q1
          cases FB with
          | false =>
            have HR : Hid (fewW l = false) := Lib.hid (HBAD.out (by rw [HR1.out]; rfl))
            go_wp2_with (go_at_call 31; refine hfw.mono ?_; rintro e w1 ⟨rfl, hb1⟩; have B1 := Lib.hid hb1; clear hb1)
            go_ret
            exact ⟨by rw [HR.out]; rfl, HW.out.trans (B1.out.mono HW.out.size)⟩
          | true =>
            by_cases q3 : A.kind = 5
            · have d3 : (A.kind == 5) = true := beq_iff_eq.2 q3
              have HR : Hid (fewW l = false) := Lib.hid (HBAD.out (by rw [HR1.out, decide_eq_true q3]; rfl))
              clear q3
              go_wp2_with (go_at_call 31; refine hfw.mono ?_; rintro e w1 ⟨rfl, hb1⟩; obtain ⟨k0, k2⟩ := HKA.out _ hb1; have B1 := Lib.hid hb1; clear hb1)
              go_ret
              exact ⟨by rw [HR.out]; rfl, HW.out.trans (B1.out.mono HW.out.size)⟩
            · have d3 : (A.kind == 5) = false := beq_eq_false_iff_ne.2 q3
              by_cases q4 : A.own.kind = 5
              · have d4 : (A.own.kind == 5) = true := beq_iff_eq.2 q4
                have HR : Hid (fewW l = false) := Lib.hid (HBAD.out (by rw [HR1.out, decide_eq_true q4, Bool.and_comm]; rfl))
                clear q3 q4
                go_wp2_with (go_at_call 31; refine hfw.mono ?_; rintro e w1 ⟨rfl, hb1⟩; obtain ⟨k0, k2⟩ := HKA.out _ hb1; have B1 := Lib.hid hb1; clear hb1)
                go_ret
                exact ⟨by rw [HR.out]; rfl, HW.out.trans (B1.out.mono HW.out.size)⟩
              · have d4 : (A.own.kind == 5) = false := beq_eq_false_iff_ne.2 q4
                have HN2 : Hid ((l.take (i + 1)).all AW.few = true) := Lib.hid (by rw [HT.out, hall.out, HR1.out, decide_eq_false q3, decide_eq_false q4]; rfl)
                clear q3 q4
                go_wp2_with (go_at_call 31; refine hfw.mono ?_; rintro e w1 ⟨rfl, hb1⟩; obtain ⟨k0, k2⟩ := HKA.out _ hb1; have B1 := Lib.hid hb1; clear hb1)
                go_roundw
                case rel => exact ⟨i + 1, by go_num, by omega, HN2, Lib.hid (HW.out.trans (B1.out.mono HW.out.size))⟩
                case measure => simp [intOf]; omega
      · obtain rfl : i = n := by omega
        have HR : Hid (fewW l = true) := Lib.hid (by
          rw [HF.out]
          have := hall.out
          rw [List.take_of_length_le (by have := HN.out; omega)] at this
          exact this)
        go_wp2
        go_ret
        exact ⟨by rw [HR.out]; rfl, HW.out⟩
end Go.Proofs.YtcbmecpeockdeaaGreatDoor
namespace Go.Proofs.YtcbmecpeockdeaaGreatDoor
open Go.RowKit Go.Maps

theorem puts_few {ep : Int} (m : Nat) (l : List (List UInt8)) (h : Puts ep m l) : l = [] ∨ m + l.length ≤ 1000000 := by
  induction l generalizing m with
  | nil => exact Or.inl rfl
  | cons b l ih =>
    right
    have h1 := (wrong_none h.1).2.1.2
    rcases ih (m + 1) h.2 with q | q
    · rw [q, List.length_singleton]; omega
    · rw [List.length_cons]; omega
theorem VKept.ok {v : Vt} {n : Nat} {x : List UInt8} {l : List (List UInt8)} (h : VKept v n x l) (hd : v.d.Ok) : v.Ok := by
  have hl : v.d.cells.length = n := h.dev.held.2.2.2.2
  have hs := h.dev.s1
  obtain ⟨a, b, R, ha, hb, hst, _⟩ := h.dev.dev
  have hc := hst.clen
  have hf := framesL_len v.ep 0 l
  rw [List.length_append, List.length_append, List.length_append, ha, hb, hf] at hc
  refine ⟨hd, by rw [hl]; exact hs, ?_, ?_⟩
  · rw [h.sq]
    rcases puts_few 0 l h.dev.puts with q | q
    · rw [q]; show (0 : Int) ≤ ((0 : Nat) : Int) ∧ ((0 : Nat) : Int) ≤ _; omega
    · omega
  · rw [h.at_]
    unfold Vt.n
    rw [hl]
    omega
theorem append_dok {v : Vt} (h : v.d.Ok) (t : List UInt8) : (v.append t).d.Ok := by
  unfold Vt.append
  split
  · exact h
  · show (v.app0 t).d.Ok
    unfold Vt.app0
    split
    · exact app_ok h _ _ _ _ _ _
    · exact app_ok h _ _ _ _ _ _
theorem snapD_ok {d : Dv} (h : d.Ok) (s : Nat) (t : List UInt8) : (snapD d s t).Ok := by
  unfold snapD
  split
  · exact lasting_ok h _ _
  · exact h
theorem snap_dok {v : Vt} (h : v.d.Ok) (t : List UInt8) : (v.snap t).d.Ok := by
  unfold Vt.snap
  split
  · exact h
  · show (v.snap0 t).d.Ok
    unfold Vt.snap0
    split
    · exact snapD_ok h _ _
    · exact snapD_ok h _ _
theorem append_ops (v : Vt) (t : List UInt8) : (v.append t).d.ops ≤ v.d.ops + 64 * nsec t.length + 1 := by
  have h := app_ops v.d v.f v.n v.p v.ep (v.sq + 1) t
  unfold Vt.append
  split
  · omega
  · show (v.app0 t).d.ops ≤ _
    unfold Vt.app0
    split
    · exact h.2
    · exact h.2
theorem snapD_ops (d : Dv) (s : Nat) (t : List UInt8) (hs : s ≤ 500) : (snapD d s t).ops ≤ d.ops + 32001 := by
  unfold snapD
  split
  · rename_i q
    have := of_decide_eq_true (show decide _ = true from q.1)
    have h := lasting_ops d (snapP d s) (tx (put9 (snapG d s) t))
    rw [tx_size, put9_len] at h
    omega
  · omega
theorem snap_ops (v : Vt) (t : List UInt8) (hs : v.s ≤ 500) : (v.snap t).d.ops ≤ v.d.ops + 32001 := by
  have h := snapD_ops v.d v.s t hs
  unfold Vt.snap
  split
  · omega
  · show (v.snap0 t).d.ops ≤ _
    unfold Vt.snap0
    split
    · exact h
    · exact h
theorem append_same (v : Vt) (t : List UInt8) : (v.append t).s = v.s ∧ (v.append t).ep = v.ep := by
  unfold Vt.append
  split
  · exact ⟨rfl, rfl⟩
  · show (v.app0 t).s = v.s ∧ (v.app0 t).ep = v.ep
    unfold Vt.app0
    split <;> exact ⟨rfl, rfl⟩
theorem snap_same (v : Vt) (t : List UInt8) : (v.snap t).s = v.s := by
  unfold Vt.snap
  split
  · rfl
  · show (v.snap0 t).s = v.s
    unfold Vt.snap0
    split <;> rfl
/-- A frame that may be, and has room, is appended. -/
theorem VKept.append_good {v : Vt} {n : Nat} {x : List UInt8} {l : List (List UInt8)} (h : VKept v n x l) (t : List UInt8) (hw : wrong10 v.ep (v.sq + 1) t.length = 0) (hr : fits11 v.n v.p t.length = true) : v.appR t = 0 ∧ VKept (v.append t) n x (l ++ [t]) := by
  rcases h.append t with q | ⟨q, _⟩
  · exact q
  · exfalso
    have hlen : v.d.cells.length = n := h.dev.held.2.2.2.2
    have hw' := hw
    have hr' := hr
    unfold Vt.n at hr'
    rw [h.sq] at hw'
    rw [h.at_, hlen] at hr'
    have a1 := (h.dev.app t hw' hr').1
    refine q ?_
    unfold Vt.appR Vt.appE Vt.f Vt.n
    rw [h.on, if_neg (by simp), hlen, h.sq, h.at_]
    exact a1
theorem VKept.snap_good {v : Vt} {n : Nat} {x : List UInt8} {l : List (List UInt8)} (h : VKept v n x l) (t : List UInt8) (ht : fits12 v.s t = true) (he : v.ep ≠ 1000000000) : v.snapR t = 0 ∧ VKept (v.snap t) n t [] ∧ (v.snap t).ep = v.ep + 1 := by
  obtain ⟨a1, a2, _⟩ := h.dev.snap t ht he
  have hR : v.snapR t = 0 := by unfold Vt.snapR; rw [h.on, if_neg (by simp)]; exact a1
  refine ⟨hR, ?_, ?_⟩
  · rcases h.snap t with q | ⟨q, _⟩
    · exact q.2
    · exact absurd hR q
  · unfold Vt.snap
    rw [h.on, if_neg (by simp)]
    show (v.snap0 t).ep = _
    unfold Vt.snap0
    rw [if_pos a1]
    exact a2
theorem open_kept {d : Dv} {n s : Nat} {ep : Int} {x : List UInt8} {l : List (List UInt8)} (h : VDev d n s ep x l) (v : Vt) (hv : v = ⟨d, s, ep, l.length, (sumN l : Nat), false⟩) : VKept v n x l := by
  subst hv
  exact ⟨h, rfl, rfl, rfl⟩

abbrev firstL : List UInt8 := [102, 105, 114, 115, 116]
abbrev oneL : List UInt8 := [111, 110, 101]
abbrev secondL : List UInt8 := [115, 101, 99, 111, 110, 100]
abbrev twoL : List UInt8 := [116, 119, 111]
/-- All that the probes ask. -/
structure Aw12 (d0 : Dv) (V1 V2 V3 V4 : Vt) : Prop where
  o0 : d0.Ok ∧ d0.ops = 0 ∧ d0.cells.length = 12
  o1 : openE d0 2 firstL = 0 ∧ openI d0 2 = -1 ∧ openV d0 2 firstL = V1 ∧ V1.Ok ∧ V1.d.ops ≤ 40000
  o2 : V1.appR oneL = 0 ∧ V1.append oneL = V2 ∧ V2.Ok ∧ V2.d.ops ≤ 80000
  o3 : V2.snapR secondL = 0 ∧ V2.snap secondL = V3 ∧ V3.Ok ∧ V3.d.ops ≤ 120000
  o4 : V3.appR twoL = 0 ∧ V3.append twoL = V4 ∧ V4.Ok ∧ V4.d.ops ≤ 160000
  o5 : openE V4.d 2 [] = 0 ∧ openI V4.d 2 ≠ -1 ∧ (openV V4.d 2 []).d = V4.d ∧ openT V4.d 2 [] = secondL ∧ openB V4.d 2 = [twoL]
  o6 : outside12 V4.d.cells.length 6 ≠ 0
  o7 : V4.ep = 2 ∧ V4.sq = 1 ∧ V4.shut = false ∧ V4.room [] = true ∧ V4.fits [120] = true ∧ V4.fits (List.replicate 200 0) = false
theorem aw12 : ∃ d0 V1 V2 V3 V4, d0 = Dv.new 12 ∧ Aw12 d0 V1 V2 V3 V4 := by
  obtain ⟨d0, h0⟩ : ∃ d, d = Dv.new 12 := ⟨_, rfl⟩
  have ok0 : d0.Ok := by rw [h0]; exact dv_new_ok 12 (by omega) (by omega)
  have op0 : d0.ops = 0 := by rw [h0]; rfl
  have le0 : d0.cells.length = 12 := by rw [h0]; rfl
  have n0 : VNone d0 12 := by rw [h0]; exact still_new 12
  obtain ⟨a1, a2, a3, a4, a5⟩ := none_open n0 2 (by omega) (by omega) (by omega) firstL (by decide)
  obtain ⟨r1, _, _⟩ : openI d0 2 = -1 ∧ True ∧ True := ⟨by
    have hz : List.replicate (64 * 12) (0 : UInt8) = List.replicate (64 * 2) 0 ++ (List.replicate (64 * 2) 0 ++ List.replicate (64 * 8) 0) := by
      rw [List.replicate_append_replicate, List.replicate_append_replicate]
    have hd := n0
    unfold VNone at hd
    rw [hz] at hd
    obtain ⟨_, q2, q3⟩ := held_two (s := 2) hd List.length_replicate List.length_replicate (by omega) (by omega)
    unfold openI pickI
    rw [q2, q3, if_pos ⟨zeros_none9 _, zeros_none9 _⟩], trivial, trivial⟩
  obtain ⟨V1, hV1⟩ : ∃ V, V = openV d0 2 firstL := ⟨_, rfl⟩
  have hD1 : openD d0 2 firstL = snapD d0 2 firstL := by
    unfold openD
    rw [if_pos ⟨by
      unfold openE at a1
      split at a1
      · rename_i q; exact absurd a1 q
      · rename_i q; omega, r1⟩]
  have k1 : VKept V1 12 firstL [] := open_kept a5 V1 (hV1.trans a2)
  have s1 : V1.s = 2 ∧ V1.ep = 1 ∧ V1.d = snapD d0 2 firstL := by rw [hV1, a2, hD1]; exact ⟨rfl, rfl, rfl⟩
  have ok1 : V1.d.Ok := by rw [s1.2.2]; exact snapD_ok ok0 _ _
  have op1 : V1.d.ops ≤ 40000 := by rw [s1.2.2]; have := snapD_ops d0 2 firstL (by omega); omega
  have n1 : V1.n = 8 := by unfold Vt.n; rw [k1.dev.held.2.2.2.2, s1.1]; rfl
  obtain ⟨b1, k2⟩ := k1.append_good oneL (by rw [s1.2.1, k1.sq]; rfl) (by rw [n1, k1.at_]; rfl)
  obtain ⟨V2, hV2⟩ : ∃ V, V = V1.append oneL := ⟨_, rfl⟩
  rw [← hV2] at k2
  have s2 : V2.s = 2 ∧ V2.ep = 1 := by rw [hV2, (append_same V1 oneL).1, (append_same V1 oneL).2]; exact ⟨s1.1, s1.2.1⟩
  have ok2 : V2.d.Ok := by rw [hV2]; exact append_dok ok1 _
  have op2 : V2.d.ops ≤ 80000 := by rw [hV2]; have := append_ops V1 oneL; rw [show nsec oneL.length = 1 from rfl] at this; omega
  obtain ⟨c1, k3, e3⟩ := k2.snap_good secondL (by rw [s2.1]; decide) (by rw [s2.2]; omega)
  obtain ⟨V3, hV3⟩ : ∃ V, V = V2.snap secondL := ⟨_, rfl⟩
  rw [← hV3] at k3 e3
  have s3 : V3.s = 2 := by rw [hV3, snap_same V2 secondL]; exact s2.1
  have e3' : V3.ep = 2 := by rw [e3, s2.2]; rfl
  have ok3 : V3.d.Ok := by rw [hV3]; exact snap_dok ok2 _
  have op3 : V3.d.ops ≤ 120000 := by rw [hV3]; have := snap_ops V2 secondL (by rw [s2.1]; omega); omega
  have n3 : V3.n = 8 := by unfold Vt.n; rw [k3.dev.held.2.2.2.2, s3]; rfl
  obtain ⟨g1, k4⟩ := k3.append_good twoL (by rw [e3', k3.sq]; rfl) (by rw [n3, k3.at_]; rfl)
  obtain ⟨V4, hV4⟩ : ∃ V, V = V3.append twoL := ⟨_, rfl⟩
  rw [← hV4, List.nil_append] at k4
  have s4 : V4.s = 2 ∧ V4.ep = 2 := by rw [hV4, (append_same V3 twoL).1, (append_same V3 twoL).2]; exact ⟨s3, e3'⟩
  have ok4 : V4.d.Ok := by rw [hV4]; exact append_dok ok3 _
  have op4 : V4.d.ops ≤ 160000 := by rw [hV4]; have := append_ops V3 twoL; rw [show nsec twoL.length = 1 from rfl] at this; omega
  have n4 : V4.n = 8 := by unfold Vt.n; rw [k4.dev.held.2.2.2.2, s4.1]; rfl
  have k4d := k4.dev
  rw [s4.1] at k4d
  obtain ⟨p1, p2, p3, p4, p5⟩ := k4d.opened []
  refine ⟨d0, V1, V2, V3, V4, h0, ⟨⟨ok0, op0, le0⟩, ⟨a1, r1, hV1.symm, k1.ok ok1, op1⟩, ⟨b1, hV2.symm, k2.ok ok2, op2⟩, ⟨c1, hV3.symm, k3.ok ok3, op3⟩, ⟨g1, hV4.symm, k4.ok ok4, op4⟩, ⟨p1, k4d.held.2.1, by rw [p2], p3, p4⟩, ?_, ⟨s4.2, k4.sq, k4.on, ?_, ?_, ?_⟩⟩⟩
  · rw [k4d.held.2.2.2.2]; decide
  · unfold Vt.room; rw [k4.on, n4, k4.at_]; rfl
  · unfold Vt.fits; rw [k4.on, s4.1]; decide
  · unfold Vt.fits fits12; rw [k4.on, s4.1, List.length_replicate]; decide
end Go.Proofs.YtcbmecpeockdeaaGreatDoor
