/- The frames that follow one another, as the program's iterator hands them on. -/
import Derived.Test.YtdomcgbfpinpoaaGreatDoorFrmF10
import Derived.Test.YtdomcgbfpinpoaaGreatDoorRange10
import Derived.Shelf.Abstract
import Derived.Shelf.RegionOpen
import Derived.OwnWalkIn
import Derived.TacticsInMore
import Derived.LoopNIn
import Derived.LoopIn
import Derived.Maps.AppendAt
namespace Go.Proofs.YtdomcgbfpinpoaaGreatDoor
open Go.RowKit Go.Shelf
attribute [local go_sem] Oper.semAt_some

/-- A frame that was taken, and the sector behind it. -/
structure Fr where
  ep : Int
  sq : Int
  body : List UInt8
  upto : Nat
def Fr.enc (x : Fr) : Array Value := #[.agg #[.int .i64 x.ep, .int .i64 x.sq, .string (tx x.body)], .int .i64 x.upto]
/-- Frames that follow one another from sector 0 on, up to a sector. -/
inductive Chn (L : List UInt8) : List Fr → Nat → Prop
  | nil : Chn L [] 0
  | snoc {pre : List Fr} {q k : Nat} : Chn L pre q → getE10 L q = 0 → getTo L q = k → Chn L (pre ++ [⟨getEp L q, getSq L q, getB L q, k⟩]) k
theorem Chn.len {L : List UInt8} {pre : List Fr} {q : Nat} (h : Chn L pre q) : pre.length ≤ q ∧ 64 * q ≤ L.length := by
  induction h with
  | nil => exact ⟨Nat.le_refl _, Nat.zero_le _⟩
  | snoc h1 h2 h3 ih =>
    obtain ⟨q', n, e1, e2, _, _, e5, _⟩ := get_fine10 h2
    have := nsec_up n
    rw [List.length_append]
    simp only [List.length_cons, List.length_nil]
    omega
theorem Chn.on {L : List UInt8} {q : Nat} (h : getE10 L q = 0) : ∃ k : Nat, getTo L q = k ∧ q < k ∧ 64 * k ≤ L.length := by
  obtain ⟨q', n, e1, e2, _, _, e5, _⟩ := get_fine10 h
  have := nsec_up n
  exact ⟨q' + nsec n, e2, by omega, e5⟩
theorem frames_any (s : ByteArray) (w : World) :
    Calls Tryz.prog 61 #[.string s] w fun e w' => e = .returned (.func (.func 75) #[] #[.pointer (some ⟨w.heap.size, 0, none⟩)]) ∧ w' = w.alloc (.cells #[.string s] 9) := by
  go_enter Tryz.func61, Tryz.ntmps61
  go_wp2
  go_ret
  exact ⟨rfl, rfl⟩
theorem Lasts.put {β : Type} {T : TypeId} {B : Nat} {J : β → World → Prop} (h : Lasts T B J) {s : β} {W : World} {g o : Nat} {cs : Array Value} {fr : Nat × Nat} (hs : J s W) (hB : B ≤ g) (hl : W.heap[g]? = some (.cells cs T fr)) (v : Value) : J s (W.setCell ⟨g, o, none⟩ v) :=
  h s W _ (some g) hs ⟨rfl, rfl, rfl, by simp [World.setCell], fun k _ hk => heap_set_off W g o k v (fun e => hk (by rw [e]))⟩ (fun r e => by cases e; exact ⟨hB, _, hl, Or.inr ⟨cs, fr, rfl⟩⟩)
/-- What a round keeps: what lay below n₀, the block b, and every frame that lies in a block. -/
def KeptF (n₀ b : Nat) (W W' : World) : Prop := Below n₀ W W' ∧ W'.heap[b]? = W.heap[b]? ∧ ∀ (k : Nat) (cs : Array Value) (fr : Nat × Nat), W.heap[k]? = some (.cells cs 39 fr) → W'.heap[k]? = some (.cells cs 39 fr)
set_option maxRecDepth 100000 in
set_option maxHeartbeats 2000000 in
theorem frames_seq (n : Nat) (hn : 1 ≤ n) (s : ByteArray) (hs : s.size ≤ 281474976710656) (b : Nat) (w0 w : World) (hT : Tab w0) (hw : Below w0.heap.size w0 w) (hb : b < w.heap.size) (hc : Boxed w b 9 (.string s)) :
    SeqVar 39 Fence.wide n Tryz.prog 75 #[.pointer (some ⟨b, 0, none⟩)] Fr.enc (KeptF w0.heap.size b) (fun xs => ∃ q : Nat, Chn s.data.toList xs q ∧ getE10 s.data.toList q ≠ 0) (fun pre => ∃ q : Nat, Chn s.data.toList pre q) (s.size / 64 + 1) w := by
  intro l J Jx W hW hJ hJx hY h0
  have HG : Hid (∀ (q : Nat) (v : World), 64 * q ≤ s.size → Below w0.heap.size w0 v → Calls Tryz.prog 39 #[.string s, .int .i64 q] v fun e w' => e = .returned (res10 s.data.toList q) ∧ Below v.heap.size v w') := Lib.hid fun q v hq hv => pget10_any s hs q (by omega) (by omega) v (hT.below hv)
  have hz := text_size s
  obtain ⟨L, hL⟩ : ∃ L, s.data.toList = L := ⟨_, rfl⟩
  rw [hL] at HG hz ⊢
  have HS := Lib.hid (And.intro hs hz)
  have hW2 := hw.trans (hW.mono hw.size)
  have HX := Lib.hid (old_obj hW hc)
  have hc0 := Boxed.cell HX.out
  have hg0 := HG.out 0 W (by omega) hW2
  have HW := Lib.hid hW2
  have HBW : Hid (b < W.heap.size) := Lib.hid (by have := hW.size; omega)
  clear hs hz hL hc hT hW hW2 hw hb
  unfold res10 at hg0
  rw [show ((0 : Nat) : Int) = 0 from rfl] at hg0
  refine callsIn_of_wp Tryz.func75 rfl trivial ?_ rfl
  simp only [Tryz.ntmps75, List.size_toArray, List.length_cons, List.length_nil, Nat.reduceAdd, Nat.reduceSub, Array.replicate_succ, Array.replicate_zero, List.push_toArray, List.append_toArray, List.nil_append, List.cons_append]
  gi_wp2_with (refine ⟨trivial, ?_⟩; gi_at_call 39; refine (callsIn_wide.2 hg0).mono ?_; rintro e w2 ⟨rfl, hb2⟩; have HB2 := Lib.hid hb2; clear hb2)
  obtain ⟨V, hV⟩ : ∃ V, V = w2.alloc (.cells #[.int .i64 (getEp L 0), .int .i64 (getSq L 0), .string (tx (getB L 0))] 39) := ⟨_, rfl⟩
  have hWV : Below W.heap.size W V := by rw [hV]; exact HB2.out.alloc HB2.out.size _
  have Z0 : Hid (V.heap[w2.heap.size]? = some (.cells #[.int .i64 (getEp L 0), .int .i64 (getSq L 0), .string (tx (getB L 0))] 39 (0, 0))) := Lib.hid (by rw [hV]; exact heap_alloc_new w2 _)
  have J0 := Lib.hid (hJ.later h0 hWV)
  have B0 := Lib.hid (HW.out.trans (hWV.mono HW.out.size))
  have X0 := Lib.hid (old_obj hWV HX.out)
  have HSZ : Hid (W.heap.size ≤ w2.heap.size) := Lib.hid HB2.out.size
  have HJ : Hid (Lasts 39 W.heap.size J) := Lib.hid hJ
  rw [← hV]
  clear hV hWV h0 HB2 hc0 hg0 hJ hJx HX
  generalize w2.heap.size = bf at *
  gi_loopw [4, 5] (fun p' e' wr => ∃ (pre : List Fr) (q : Nat), p' = .int .i64 (getTo L q) ∧ e' = .int .i64 (getE10 L q) ∧ J pre wr ∧ Hid (Chn L pre q) ∧ Hid (Below w0.heap.size w0 wr) ∧ Hid (wr.heap[bf]? = some (.cells #[.int .i64 (getEp L q), .int .i64 (getSq L q), .string (tx (getB L q))] 39 (0, 0))) ∧ Hid (wr.heap[b]? = some (.cells #[.string s] 9 (0, 0))))
    (fun p' e' _ => if intOf e' = 0 then s.size / 64 + 1 - (intOf p').toNat else 0)
  case atStart => exact ⟨[], 0, rfl, rfl, J0.out, Lib.hid .nil, B0, Z0, X0⟩
  case round =>
    clear J0 B0 Z0 X0
    obtain ⟨pre, q, rfl, rfl, hJs, hch, hbr, hz, hx⟩ := hrel
    by_cases q1 : getE10 L q = 0
    · obtain ⟨k, hk, hqk, hkl⟩ := Chn.on q1
      obtain ⟨fn, tmps, assign, body, hy, hR⟩ := hY pre ⟨getEp L q, getSq L q, getB L q, k⟩ wr hJs (by have := hch.out.len; have := HS.out; omega)
      have hnew := Lib.hid (Chn.snoc hch.out q1 hk)
      dsimp only [Fr.enc] at hy
      obtain ⟨c0, c1, c2, f0, f1, f2⟩ := three_cells hz.out
      have hload := fun (v : World) (h : v.heap[bf]? = some (.cells #[.int .i64 (getEp L q), .int .i64 (getSq L q), .string (tx (getB L q))] 39 (0, 0))) => pfr_load h
      have e1 : (getE10 L q == 0) = true := beq_iff_eq.2 q1
      have HQ := Lib.hid (And.intro q1 (And.intro hqk hkl))
      rw [hk, q1]
      generalize getEp L q = E at *
      generalize getSq L q = Q at *
      generalize getB L q = TB at *
      clear q1 hqk hkl hk e1
      gi_wp2
      refine hR.mono ?_
      rintro e W3 (⟨rfl, hJ3, hk3⟩ | ⟨rfl, hJx3⟩)
      · have h3 := hk3.2.2 _ _ _ hz.out
        have b3 := hbr.out.trans hk3.1
        have x3 := hk3.2.1.trans hx.out
        have hc3 := Boxed.cell x3
        have hg3 := HG.out k W3 (by have := HQ.out; have := HS.out; omega) b3
        unfold res10 at hg3
        have H3 := Lib.hid h3
        have B3 := Lib.hid b3
        have J3 := Lib.hid hJ3
        have X3 := Lib.hid x3
        clear hk3 h3 b3 x3 c0 c1 c2 f0 f1 f2 hload hJ3 hJs
        gi_wp2_with (refine ⟨trivial, ?_⟩; gi_at_call 39; refine (callsIn_wide.2 hg3).mono ?_; rintro e w4 ⟨rfl, hb4⟩; have H4 := Lib.hid (old_obj hb4 H3.out); have X4 := Lib.hid (old_obj hb4 X3.out); have B4 := Lib.hid (B3.out.trans (hb4.mono B3.out.size)); have J4 := Lib.hid (HJ.out.later J3.out hb4); clear hb4; obtain ⟨c0, c1, c2, f0, f1, f2⟩ := three_cells H4.out)
        go_roundw
        case rel =>
          have hne : b ≠ bf := by have := HBW.out; have := HSZ.out; omega
          refine ⟨_, k, rfl, rfl, ?_, hnew, Lib.hid (three_below B4.out ?_ _ _ _), Lib.hid (three_stored H4.out _ _ _), Lib.hid (by rw [heap_set_off _ _ _ _ _ hne, heap_set_off _ _ _ _ _ hne, heap_set_off _ _ _ _ _ hne]; exact X4.out)⟩
          · have z0 := heap_setCell_same w4 bf 0 _ _ (.int .i64 (getEp L k)) H4.out
            have z1 := heap_setCell_same _ bf 1 _ _ (.int .i64 (getSq L k)) z0
            exact HJ.out.put (HJ.out.put (HJ.out.put J4.out HSZ.out H4.out _) HSZ.out z0 _) HSZ.out z1 _
          · have := HSZ.out
            have := HW.out.size
            omega
        case measure =>
          have := HQ.out
          have h1 := HS.out
          by_cases q2 : getE10 L k = 0
          · obtain ⟨k2, e2, e3, e4⟩ := Chn.on q2
            rw [q2, e2]
            simp [intOf]
            omega
          · simp [intOf, q2]
            omega
      · gi_wp2
        go_end0
        exact ⟨⟨_, rfl⟩, .inr ⟨_, ⟨k, hnew.out⟩, hJx3⟩⟩
    · have e1 : (getE10 L q == 0) = false := beq_eq_false_iff_ne.2 q1
      have HQ := Lib.hid q1
      clear q1
      gi_wp2
      refine ⟨fun _ h => (by cases h), ?_⟩
      gi_wp2
      go_end0
      exact ⟨⟨_, rfl⟩, .inl ⟨pre, ⟨q, hch.out, HQ.out⟩, hJs⟩⟩
end Go.Proofs.YtdomcgbfpinpoaaGreatDoor
