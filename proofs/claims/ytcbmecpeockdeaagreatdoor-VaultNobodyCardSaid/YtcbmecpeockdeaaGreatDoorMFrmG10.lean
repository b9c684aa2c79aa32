/- The frames that follow one another, as the program's iterator hands them on. -/
import Derived.Test.YtcbmecpeockdeaaGreatDoorFrmF10
import Derived.Test.YtcbmecpeockdeaaGreatDoorRange10
import Derived.Shelf.Abstract
import Derived.Shelf.RegionOpen
import Derived.OwnWalkIn
import Derived.TacticsInMore
import Derived.LoopNIn
import Derived.LoopIn
import Derived.Maps.AppendAt
namespace Go.Proofs.YtcbmecpeockdeaaGreatDoor
open Go.RowKit Go.Shelf
attribute [local go_sem] Oper.semAt_some

/-- A frame that was taken, and the sector behind it. -/
structure Fr where
  ep : Int
  sq : Int
  body : List UInt8
  upto : Nat
def Fr.enc (x : Fr) : Array Value := #[.agg #[.int .i64 x.ep, .int .i64 x.sq, .string (tx x.body)], .int .i64 x.upto]
/-- Frames that follow one another from sector 0 on, up to a sector. -/
inductive Chn (L : List UInt8) : List Fr → Nat → Prop
  | nil : Chn L [] 0
  | snoc {pre : List Fr} {q k : Nat} : Chn L pre q → getE10 L q = 0 → getTo L q = k → Chn L (pre ++ [⟨getEp L q, getSq L q, getB L q, k⟩]) k
theorem Chn.len {L : List UInt8} {pre : List Fr} {q : Nat} (h : Chn L pre q) : pre.length ≤ q ∧ 64 * q ≤ L.length := by
  induction h with
  | nil => exact ⟨Nat.le_refl _, Nat.zero_le _⟩
  | snoc h1 h2 h3 ih =>
    obtain ⟨q', n, e1, e2, _, _, e5, _⟩ := get_fine10 h2
    have := nsec_up n
    rw [List.length_append]
    simp only [List.length_cons, List.length_nil]
    omega
theorem Chn.on {L : List UInt8} {q : Nat} (h : getE10 L q = 0) : ∃ k : Nat, getTo L q = k ∧ q < k ∧ 64 * k ≤ L.length := by
  obtain ⟨q', n, e1, e2, _, _, e5, _⟩ := get_fine10 h
  have := nsec_up n
  exact ⟨q' + nsec n, e2, by omega, e5⟩
theorem frames_any (s : ByteArray) (w : World) :
    Calls Tryz.prog 68 #[.string s] w fun e w' => e = .returned (.func (.func 94) #[] #[.pointer (some ⟨w.heap.size, 0, none⟩)]) ∧ w' = w.alloc (.cells #[.string s] 9) := by
  go_enter Tryz.func68, Tryz.ntmps68
  go_wp2
  go_ret
  exact ⟨rfl, rfl⟩
theorem Lasts.put {β : Type} {T : TypeId} {B : Nat} {J : β → World → Prop} (h : Lasts T B J) {s : β} {W : World} {g o : Nat} {cs : Array Value} {fr : Nat × Nat} (hs : J s W) (hB : B ≤ g) (hl : W.heap[g]? = some (.cells cs T fr)) (v : Value) : J s (W.setCell ⟨g, o, none⟩ v) :=
  h s W _ (some g) hs ⟨rfl, rfl, rfl, by simp [World.setCell], fun k _ hk => heap_set_off W g o k v (fun e => hk (by rw [e]))⟩ (fun r e => by cases e; exact ⟨hB, _, hl, Or.inr ⟨cs, fr, rfl⟩⟩)
/-- What a round keeps: what lay below n₀, the block b, and every frame that lies in a block. -/
def KeptF (n₀ b : Nat) (W W' : World) : Prop := Below n₀ W W' ∧ W'.heap[b]? = W.heap[b]? ∧ ∀ (k : Nat) (cs : Array Value) (fr : Nat × Nat), W.heap[k]? = some (.cells cs 81 fr) → W'.heap[k]? = some (.cells cs 81 fr)
set_option maxRecDepth 100000 in
set_option maxHeartbeats 2000000 in
theorem frames_seq (n : Nat) (hn : 1 ≤ n) (s : ByteArray) (hs : s.size ≤ 281474976710656) (b : Nat) (w0 w : World) (hT : Tab w0) (hw : Below w0.heap.size w0 w) (hb : b < w.heap.size) (hc : Boxed w b 9 (.string s)) :
    SeqVar 81 Fence.wide n Tryz.prog 94 #[.pointer (some ⟨b, 0, none⟩)] Fr.enc (KeptF w0.heap.size b) (fun xs => ∃ q : Nat, Chn s.data.toList xs q ∧ getE10 s.data.toList q ≠ 0) (fun pre => ∃ q : Nat, Chn s.data.toList pre q) (s.size / 64 + 1) w := by
  intro l J Jx W hW hJ hJx hY h0
  have HG : Hid (∀ (q : Nat) (v : World), 64 * q ≤ s.size → Below w0.heap.size w0 v → Calls Tryz.prog 95 #[.string s, .int .i64 q] v fun e w' => e = .returned (res10 s.data.toList q) ∧ Below v.heap.size v w') := Lib.hid fun q v hq hv => pget10_any s hs q (by omega) (by omega) v (hT.below hv)
  have hz := text_size s
  obtain ⟨L, hL⟩ : ∃ L, s.data.toList = L := ⟨_, rfl⟩
  rw [hL] at HG hz ⊢
  have HS := Lib.hid (And.intro hs hz)
  have hW2 := hw.trans (hW.mono hw.size)
  have HX := Lib.hid (old_obj hW hc)
  have hc0 := Boxed.cell HX.out
  have hg0 := HG.out 0 W (by omega) hW2
  have HW := Lib.hid hW2
  have HBW : Hid (b < W.heap.size) := Lib.hid (by have := hW.size; omega)
  clear hs hz hL hc hT hW hW2 hw hb
  unfold res10 at hg0
  rw [show ((0 : Nat) : Int) = 0 from rfl] at hg0
  refine callsIn_of_wp Tryz.func94 rfl trivial ?_ rfl
  simp only [Tryz.ntmps94, List.size_toArray, List.length_cons, List.length_nil, Nat.reduceAdd, Nat.reduceSub, Array.replicate_succ, Array.replicate_zero, List.push_toArray, List.append_toArray, List.nil_append, List.cons_append]
  gi_wp2_with (refine ⟨trivial, ?_⟩; gi_at_call 95; refine (callsIn_wide.2 hg0).mono ?_; rintro e w2 ⟨rfl, hb2⟩; have HB2 := Lib.hid hb2; clear hb2)
  obtain ⟨V, hV⟩ : ∃ V, V = w2.alloc (.cells #[.int .i64 (getEp L 0), .int .i64 (getSq L 0), .string (tx (getB L 0))] 81) := ⟨_, rfl⟩
  have hWV : Below W.heap.size W V := by rw [hV]; exact HB2.out.alloc HB2.out.size _
  have Z0 : Hid (V.heap[w2.heap.size]? = some (.cells #[.int .i64 (getEp L 0), .int .i64 (getSq L 0), .string (tx (getB L 0))] 81 (0, 0))) := Lib.hid (by rw [hV]; exact heap_alloc_new w2 _)
  have J0 := Lib.hid (hJ.later h0 hWV)
  have B0 := Lib.hid (HW.out.trans (hWV.mono HW.out.size))
  have X0 := Lib.hid (old_obj hWV HX.out)
  have HSZ : Hid (W.heap.size ≤ w2.heap.size) := Lib.hid HB2.out.size
  have HJ : Hid (Lasts 81 W.heap.size J) := Lib.hid hJ
  rw [← hV]
  clear hV hWV h0 HB2 hc0 hg0 hJ hJx HX
  generalize w2.heap.size = bf at *
  gi_loopw [4, 5] (fun p' e' wr => ∃ (pre : List Fr) (q : Nat), p' = .int .i64 (getTo L q) ∧ e' = .int .i64 (getE10 L q) ∧ J pre wr ∧ Hid (Chn L pre q) ∧ Hid (Below w0.heap.size w0 wr) ∧ Hid (wr.heap[bf]? = some (.cells #[.int .i64 (getEp L q), .int .i64 (getSq L q), .string (tx (getB L q))] 81 (0, 0))) ∧ Hid (wr.heap[b]? = some (.cells #[.string s] 9 (0, 0))))
    (fun p' e' _ => if intOf e' = 0 then s.size / 64 + 1 - (intOf p').toNat else 0)
  case atStart => exact ⟨[], 0, rfl, rfl, J0.out, Lib.hid .nil, B0, Z0, X0⟩
  case round =>
    clear J0 B0 Z0 X0
    obtain ⟨pre, q, rfl, rfl, hJs, hch, hbr, hz, hx⟩ := hrel
    by_cases q1 : getE10 L q = 0
    · obtain ⟨k, hk, hqk, hkl⟩ := Chn.on q1
      obtain ⟨fn, tmps, assign, body, hy, hR⟩ := hY pre ⟨getEp L q, getSq L q, getB L q, k⟩ wr hJs (by have := hch.out.len; have := HS.out; omega)
      have hnew := Lib.hid (Chn.snoc hch.out q1 hk)
      dsimp only [Fr.enc] at hy
      obtain ⟨c0, c1, c2, f0, f1, f2⟩ := three_cells hz.out
      have hload := fun (v : World) (h : v.heap[bf]? = some (.cells #[.int .i64 (getEp L q), .int .i64 (getSq L q), .string (tx (getB L q))] 81 (0, 0))) => pfr_load h
      have e1 : (getE10 L q == 0) = true := beq_iff_eq.2 q1
      have HQ := Lib.hid (And.intro q1 (And.intro hqk hkl))
      rw [hk, q1]
      generalize getEp L q = E at *
      generalize getSq L q = Q at *
      generalize getB L q = TB at *
      clear q1 hqk hkl hk e1
      gi_wp2
      refine hR.mono ?_
      rintro e W3 (⟨rfl, hJ3, hk3⟩ | ⟨rfl, hJx3⟩)
      · have h3 := hk3.2.2 _ _ _ hz.out
        have b3 := hbr.out.trans hk3.1
        have x3 := hk3.2.1.trans hx.out
        have hc3 := Boxed.cell x3
        have hg3 := HG.out k W3 (by have := HQ.out; have := HS.out; omega) b3
        unfold res10 at hg3
        have H3 := Lib.hid h3
        have B3 := Lib.hid b3
        have J3 := Lib.hid hJ3
        have X3 := Lib.hid x3
        clear hk3 h3 b3 x3 c0 c1 c2 f0 f1 f2 hload hJ3 hJs
        gi_wp2_with (refine ⟨trivial, ?_⟩; gi_at_call 95; refine (callsIn_wide.2 hg3).mono ?_; rintro e w4 ⟨rfl, hb4⟩; have H4 := Lib.hid (old_obj hb4 H3.out); have X4 := Lib.hid (old_obj hb4 X3.out); have B4 := Lib.hid (B3.out.trans (hb4.mono B3.out.size)); have J4 := Lib.hid (HJ.out.later J3.out hb4); clear hb4; obtain ⟨c0, c1, c2, f0, f1, f2⟩ := three_cells H4.out)
        go_roundw
        case rel =>
          have hne : b ≠ bf := by have := HBW.out; have := HSZ.out; omega
          refine ⟨_, k, rfl, rfl, ?_, hnew, Lib.hid (three_below B4.out ?_ _ _ _), Lib.hid (three_stored H4.out _ _ _), Lib.hid (by rw [heap_set_off _ _ _ _ _ hne, heap_set_off _ _ _ _ _ hne, heap_set_off _ _ _ _ _ hne]; exact X4.out)⟩
          · have z0 := heap_setCell_same w4 bf 0 _ _ (.int .i64 (getEp L k)) H4.out
            have z1 := heap_setCell_same _ bf 1 _ _ (.int .i64 (getSq L k)) z0
            exact HJ.out.put (HJ.out.put (HJ.out.put J4.out HSZ.out H4.out _) HSZ.out z0 _) HSZ.out z1 _
          · have := HSZ.out
            have := HW.out.size
            omega
        case measure =>
          have := HQ.out
          have h1 := HS.out
          by_cases q2 : getE10 L k = 0
          · obtain ⟨k2, e2, e3, e4⟩ := Chn.on q2
            rw [q2, e2]
            simp [intOf]
            omega
          · simp [intOf, q2]
            omega
      · gi_wp2
        go_end0
        exact ⟨⟨_, rfl⟩, .inr ⟨_, ⟨k, hnew.out⟩, hJx3⟩⟩
    · have e1 : (getE10 L q == 0) = false := beq_eq_false_iff_ne.2 q1
      have HQ := Lib.hid q1
      clear q1
      gi_wp2
      refine ⟨fun _ h => (by cases h), ?_⟩
      gi_wp2
      go_end0
      exact ⟨⟨_, rfl⟩, .inl ⟨pre, ⟨q, hch.out, HQ.out⟩, hJs⟩⟩
end Go.Proofs.YtcbmecpeockdeaaGreatDoor
namespace Go.Proofs.YtcbmecpeockdeaaGreatDoor
open Go.RowKit Go.Shelf
attribute [local go_sem] Oper.semAt_some

def endOf (pre : List Fr) : Nat := (pre.getLast?.map Fr.upto).getD 0
theorem endOf_snoc (pre : List Fr) (x : Fr) : endOf (pre ++ [x]) = x.upto := by unfold endOf; simp
/-- All of one epoch, numbered 1, 2, 3 and so on. -/
def Good (ep : Int) (pre : List Fr) : Prop := ∀ (j : Nat) (x : Fr), pre[j]? = some x → x.ep = ep ∧ x.sq = (j : Int) + 1
theorem good_nil (ep : Int) : Good ep [] := fun j x h => by simp at h
theorem good_snoc {ep : Int} {pre : List Fr} {x : Fr} : Good ep (pre ++ [x]) ↔ Good ep pre ∧ x.ep = ep ∧ x.sq = (pre.length : Int) + 1 := by
  constructor
  · intro h
    refine ⟨fun j y hy => ?_, ?_⟩
    · have hlt := (List.getElem?_eq_some_iff.1 hy).1
      exact h j y (by rw [List.getElem?_append_left hlt]; exact hy)
    · exact h pre.length x (by rw [List.getElem?_append_right (Nat.le_refl _), Nat.sub_self]; rfl)
  · rintro ⟨h1, h2⟩ j y hy
    by_cases hlt : j < pre.length
    · exact h1 j y (by rw [← hy, List.getElem?_append_left hlt])
    · rw [List.getElem?_append_right (by omega)] at hy
      have hj : j - pre.length = 0 := by
        have := (List.getElem?_eq_some_iff.1 hy).1
        simp at this
        omega
      rw [hj] at hy
      obtain rfl : x = y := by simpa using hy
      obtain rfl : j = pre.length := by omega
      exact h2
theorem chn_inv {L : List UInt8} {pre : List Fr} {x : Fr} {k : Nat} (h : Chn L (pre ++ [x]) k) : ∃ q : Nat, Chn L pre q ∧ getE10 L q = 0 ∧ x = ⟨getEp L q, getSq L q, getB L q, k⟩ := by
  generalize hy : pre ++ [x] = ys at h
  cases h with
  | nil => simp at hy
  | snoc h1 h2 h3 =>
    obtain ⟨rfl, h4⟩ := List.append_inj' hy rfl
    exact ⟨_, h1, h2, by simpa using h4⟩
theorem chn_sc {L : List UInt8} {ep : Int} {pre : List Fr} {q : Nat} (h : Chn L pre q) (hg : Good ep pre) : Sc L ep (pre.map Fr.body) q ∧ endOf pre = q := by
  induction h with
  | nil => exact ⟨sc_start L ep, rfl⟩
  | snoc h1 h2 h3 ih =>
    obtain ⟨g1, g2, g3⟩ := good_snoc.1 hg
    obtain ⟨i1, _⟩ := ih g1
    obtain ⟨k', e1, _, _, e4⟩ := sc_step i1 h2 g2 (by rw [List.length_map]; exact g3)
    rw [e1] at h3
    have h3' : k' = _ := Int.ofNat_inj.1 h3
    rw [endOf_snoc, List.map_append, ← h3']
    exact ⟨e4, rfl⟩
/-- Behind some rounds: the epoch's box, the bodies' with its row, the end's. -/
structure Scans (w : World) (ep : Int) (pre : List Fr) (a : Option Addr) (c : Nat) (W : World) : Prop where
  epo : Boxed W w.heap.size 3 (.int .i64 ep)
  bod : Boxed W (w.heap.size + 1) 32 (.slice a pre.length c)
  row : W.ownsRow (w.heap.size + 4) 9 1 (.slice a pre.length c) pre.length (txCells (pre.map Fr.body))
  fin : Boxed W (w.heap.size + 2) 3 (.int .i64 (endOf pre : Nat))
  old : Below w.heap.size w W
  good : Good ep pre
  big : w.heap.size + 4 ≤ W.heap.size
theorem owns_other {W W' : World} {B k : Nat} {e : TypeId} {v : Value} {xs : List Value} {row : Option Nat} (h : W.ownsRow B e 1 v k xs) (hg : W.grownBy W' row) (hr : ∀ r, row = some r → ∃ o : Obj, W.heap[r]? = some o ∧ ∀ cs fr, o ≠ .cells cs e fr) : W'.ownsRow B e 1 v k xs := by
  refine ⟨h.1, ?_⟩
  rcases h.2 with h1 | ⟨g, cap, cur, h1, h2, h3, h4⟩
  · exact Or.inl h1
  · refine Or.inr ⟨g, cap, cur, h1, h2, ?_, h4⟩
    rw [hg.block g (Array.getElem?_eq_some_iff.1 h3).1 (fun e' => by
      obtain ⟨o, ho, hn⟩ := hr g e'.symm
      rw [h3] at ho
      exact hn _ _ (Option.some.inj ho).symm)]
    exact h3
theorem Scans.turn {w : World} {ep : Int} {pre : List Fr} {a : Option Addr} {c : Nat} {W W' : World} {row : Option Nat} (h : Scans w ep pre a c W) (hg : W.grownBy W' row)
    (hr : ∀ r, row = some r → w.heap.size + 4 ≤ r ∧ ∃ o : Obj, W.heap[r]? = some o ∧ (o.isCells = false ∨ ∃ cs fr, o = .cells cs 81 fr)) : Scans w ep pre a c W' := by
  refine ⟨h.epo.kept hg ?_, h.bod.kept hg ?_, owns_other h.row hg ?_, h.fin.kept hg ?_, ?_, h.good, Nat.le_trans h.big hg.size⟩
  · intro e; have := (hr _ e.symm).1; omega
  · intro e; have := (hr _ e.symm).1; omega
  · intro r e
    obtain ⟨o, ho, hc⟩ := (hr r e).2
    refine ⟨o, ho, fun cs fr e2 => ?_⟩
    rcases hc with hc | ⟨cs', fr', rfl⟩
    · rw [e2] at hc; cases hc
    · injection e2 with _ e3
      revert e3
      decide
  · intro e; have := (hr _ e.symm).1; omega
  · exact h.old.grown hg (by have := h.old.size; omega) (fun k e => by have := (hr k e).1; omega)
theorem own_base {W : World} {B B' k : Nat} {e : TypeId} {v : Value} {xs : List Value} (h : W.ownsRow B e 1 v k xs) (hB : B' ≤ B) : W.ownsRow B' e 1 v k xs := by
  refine ⟨h.1, ?_⟩
  rcases h.2 with h1 | ⟨g, cap, cur, h1, h2, h3⟩
  · exact Or.inl h1
  · exact Or.inr ⟨g, cap, cur, h1, by omega, h3⟩
theorem kept_alloc {n b : Nat} (W : World) (o : Obj) (hn : n ≤ W.heap.size) (hb : b < W.heap.size) : KeptF n b W (W.alloc o) :=
  ⟨(Below.refl n W).alloc hn o, Below.heap_alloc W o b hb, fun k cs fr hk => (Below.heap_alloc W o k (Array.getElem?_eq_some_iff.1 hk).1).trans hk⟩
theorem kept_set {n b : Nat} {W : World} {g o : Nat} {t : TypeId} {cs : Array Value} {fr : Nat × Nat} (hn : n ≤ g) (hb : b ≠ g) (hg : W.heap[g]? = some (.cells cs t fr)) (ht : t ≠ 81) (v : Value) : KeptF n b W (W.setCell ⟨g, o, none⟩ v) := by
  refine ⟨(Below.refl n W).setCell (p := ⟨g, o, none⟩) hn v, heap_set_off W g o b v hb, fun k cs' fr' hk => ?_⟩
  rw [heap_set_off W g o k v (fun e => ?_)]
  · exact hk
  · subst e
    rw [hg] at hk
    have h := Option.some.inj hk
    injection h with _ h2 _
    exact ht h2
theorem kept_row {n b m : Nat} {W W' : World} {v : Value} {k : Nat} {xs : List Value} (hr : W.ownsRow m 9 1 v k xs) (hg : W.grownBy W' v.ownBlock) (hn : n ≤ m) (hb : b < m) (hs : n ≤ W.heap.size) (hbs : b < W.heap.size) : KeptF n b W W' := by
  refine ⟨(Below.refl n W).grown hg hs (fun j e => by have := (hr.lt j e).1; omega), hg.block b hbs (fun e => by have := (hr.lt b e.symm).1; omega), fun j cs fr hj => ?_⟩
  rw [hg.block j (Array.getElem?_eq_some_iff.1 hj).1 (fun e => ?_)]
  · exact hj
  · rcases hr.2 with ⟨rfl, _⟩ | ⟨g, cap, cur, rfl, _, h3, _⟩
    · simp [Value.ownBlock] at e
    · obtain rfl : j = g := by simpa [Value.ownBlock] using e
      rw [h3] at hj
      have h := Option.some.inj hj
      injection h with _ h2 _
      revert h2
      decide
theorem kept_trans {n b : Nat} {A B C : World} (h : KeptF n b A B) (k : KeptF n b B C) : KeptF n b A C := ⟨h.1.trans k.1, k.2.1.trans h.2.1, fun i cs fr hi => k.2.2 i cs fr (h.2.2 i cs fr hi)⟩
theorem kept_put {n b m : Nat} (hn : n ≤ m) (hb : b < m) (W : World) (l : Nat) (o o' : Obj) (hl : m ≤ l) (h : W.heap[l]? = some o) (ho : o.isCells = false) : KeptF n b W (W.putObj l o') := by
  have hg := grownBy_putObj' W l o'
  have hlt := (Array.getElem?_eq_some_iff.1 h).1
  refine ⟨(Below.refl n W).grown hg (by omega) (fun k e => by cases e; omega), World.putObj_heap_other (by omega), fun k cs fr hk => ?_⟩
  rw [World.putObj_heap_other (fun e => ?_)]
  · exact hk
  · subst e
    rw [hk] at h
    cases h
    cases ho
def scanTmps (w : World) (s : ByteArray) (ep : Int) (x : Fr) (Bx : Nat) : Array Value := #[.string s, .int .i64 ep, undef, .pointer (some ⟨w.heap.size, 0, none⟩), .slice none 0 0, .int .i64 0, .pointer (some ⟨w.heap.size + 1, 0, none⟩), .pointer (some ⟨w.heap.size + 1 + 1, 0, none⟩), .pointer (some ⟨Bx, 0, none⟩), .int .i64 x.upto, .string s, .func (.func 94) #[] #[.pointer (some ⟨w.heap.size + 1 + 1 + 1, 0, none⟩)], .agg #[.int .i64 x.ep, .int .i64 x.sq, .string (tx x.body)], .int .i64 x.upto, undef, undef, undef, undef, undef, undef, undef, undef, undef, undef, undef, undef, undef, undef, undef, undef, undef, undef, undef, undef]
/-- What the call returns with: the row, behind the turn of the deferred calls' block. -/
theorem scan_out {w : World} {ep : Int} {xs : List Fr} {a : Option Addr} {c D : Nat} {W : World} {o : Obj} (h : Scans w ep xs a c W) (hD : w.heap.size ≤ D) (hK : W.heap[D]? = some o) (ho : o.isCells = false) (hw : o.isWalk = false) (o' : Obj) :
    xs.length ≤ c ∧ Txs w.heap.size (W.drew.putObj D o').heap.size (W.drew.putObj D o') a (xs.map Fr.body) ∧ Below w.heap.size w (W.drew.putObj D o') := by
  have hK' : W.drew.heap[D]? = some o := hK
  have hb : Below W.heap.size W W.drew := (Below.refl _ W).drew
  have hr := ownsRow_putObj (own_on h.row hb) o' hK' ho
  have hl : (xs.map Fr.body).length = xs.length := List.length_map _
  obtain ⟨a', c', hv, hc, ht⟩ := txs_own (l := xs.map Fr.body) (by rw [hl]; exact hr)
  injection hv with e1 _ e3
  subst e1 e3
  rw [hl] at hc
  exact ⟨hc, ht.wide (by omega) (Nat.le_refl _), (h.old.trans (hb.mono h.old.size)).trans (belowK_b (w := w) (Nat.le_refl _) W.drew D o o' hD hK' ho hw)⟩
set_option maxRecDepth 100000 in
set_option maxHeartbeats 4000000 in
theorem pscan10_any (s : ByteArray) (hs : s.size ≤ 281474976710656) (ep : Int) (w : World) (hT : Tab w) :
    Calls Tryz.prog 50 #[.string s, .int .i64 ep] w fun e w' => ∃ a c, e = .returned (.tuple #[.slice a (scanV s.data.toList ep).1.length c, .int .i64 ((scanV s.data.toList ep).2 : Nat)]) ∧ (scanV s.data.toList ep).1.length ≤ c ∧ Txs w.heap.size w'.heap.size w' a (scanV s.data.toList ep).1 ∧ Below w.heap.size w w' := by
  have hfr := fun v => frames_any s v
  refine (callsIn_wide (n := 3)).1 ?_
  refine callsIn_of_wp_marks Tryz.func50 rfl trivial ?_ rfl
  simp only [Tryz.ntmps50, List.size_toArray, List.length_cons, List.length_nil, Nat.reduceAdd, Nat.reduceSub, Array.replicate_succ, Array.replicate_zero, List.push_toArray, List.append_toArray, List.nil_append, List.cons_append]
  gi_wp2_with (refine ⟨trivial, ?_⟩; gi_at_call 68; refine (callsIn_wide.2 (hfr _)).mono ?_; rintro e w2 ⟨rfl, rfl⟩)
  obtain ⟨W0, hW0⟩ : ∃ W0, (((w.alloc (.cells #[.int .i64 ep] 3)).alloc (.cells #[.slice none 0 0] 32)).alloc (.cells #[.int .i64 0] 3)).alloc (.cells #[.string s] 9) = W0 := ⟨_, rfl⟩
  have hsz : W0.heap.size = w.heap.size + 4 := by rw [← hW0]; simp
  have hold : Below w.heap.size w W0 := by
    rw [← hW0]
    exact ((((Below.refl _ w).alloc (Nat.le_refl _) _).alloc (by simp) _).alloc (by simp; omega) _).alloc (by simp; omega) _
  have k0 : Boxed W0 w.heap.size 3 (.int .i64 ep) := by rw [← hW0]; exact (((Boxed.new w _ _).alloc _).alloc _).alloc _
  have k1 : Boxed W0 (w.heap.size + 1) 32 (.slice none 0 0) := by
    have h := ((Boxed.new (w.alloc (.cells #[.int .i64 ep] 3)) 32 (.slice none 0 0)).alloc (.cells #[.int .i64 0] 3)).alloc (.cells #[.string s] 9)
    rw [World.size_alloc] at h
    rw [← hW0]; exact h
  have k2 : Boxed W0 (w.heap.size + 2) 3 (.int .i64 0) := by
    have h := (Boxed.new ((w.alloc (.cells #[.int .i64 ep] 3)).alloc (.cells #[.slice none 0 0] 32)) 3 (.int .i64 0)).alloc (.cells #[.string s] 9)
    simp only [World.size_alloc] at h
    rw [← hW0]; exact h
  have k3 : Boxed W0 (w.heap.size + 1 + 1 + 1) 9 (.string s) := by
    have h := Boxed.new (((w.alloc (.cells #[.int .i64 ep] 3)).alloc (.cells #[.slice none 0 0] 32)).alloc (.cells #[.int .i64 0] 3)) 9 (.string s)
    simp only [World.size_alloc] at h
    rw [← hW0]; exact h
  rw [hW0]
  clear hW0
  have hsc : Scans w ep [] none 0 W0 := ⟨k0, k1, World.ownsRow_nil _ _ _ _, k2, hold, good_nil ep, by omega⟩
  refine range_var (T := 81) (F := Fence.wide) rfl (by omega) (gf := 94) (lb := #[.pointer (some ⟨w.heap.size + 1 + 1 + 1, 0, none⟩)]) rfl trivial (enters_of Tryz.func94 (by kernel_rfl) rfl)
    (frames_seq 2 (by omega) s hs (w.heap.size + 1 + 1 + 1) w W0 hT hold (by omega) k3) kept_trans (fun W l o o' hl h ho => kept_put (m := W0.heap.size) (by omega) (by omega) W l o o' hl h ho) (Below.refl _ _) (fun _ => rfl)
    (fun pre W => ∃ a c, Scans w ep pre a c W)
    (fun j pre W => j = .exit 0 ∧ ∃ init x a c, pre = init ++ [x] ∧ Scans w ep init a c W ∧ ¬ (x.ep = ep ∧ x.sq = (init.length : Int) + 1))
    (fun pre A B row h hg hr => by
      obtain ⟨a, c, h1⟩ := h
      exact ⟨a, c, h1.turn hg (fun r e => ⟨by have := (hr r e).1; omega, (hr r e).2⟩)⟩)
    (fun j pre A B row h hg hr => by
      obtain ⟨h0, init, x, a, c, h1, h2, h3⟩ := h
      exact ⟨h0, init, x, a, c, h1, h2.turn hg (fun r e => ⟨by have := (hr r e).1; omega, (hr r e).2⟩), h3⟩)
    ⟨none, 0, hsc⟩
    (fun x a' W => ∃ Bx, w.heap.size + 4 ≤ Bx ∧ W.heap[Bx]? = some (.cells #[.int .i64 x.ep, .int .i64 x.sq, .string (tx x.body)] 81 (0, 0)) ∧ a' = { tmps := scanTmps w s ep x Bx, defers := [] })
    (fun x a' W l o o' hl h ho hax => by
      obtain ⟨Bx, h1, h2, h3⟩ := hax
      refine ⟨Bx, h1, ?_, h3⟩
      rw [World.putObj_heap_other (fun e => ?_)]
      · exact h2
      · subst e
        rw [h2] at h
        cases h
        cases ho) ?assign ?body ?done ?stop
  case assign =>
    rintro l pre x W K ⟨a, c, h1⟩ hK
    dsimp only [Fr.enc]
    gi_wp2
    exact hK _ _ ((KeepsOthers.alloc _ _).from _) (kept_alloc W _ h1.old.size (by have := h1.big; omega)) ⟨a, c, h1.turn (World.grownBy_alloc W _ none) (fun r e => by cases e)⟩ ⟨W.heap.size, h1.big, World.alloc_heap_new W _, rfl⟩
  case body =>
    rintro l pre x a' W ⟨a, c, h1⟩ ⟨Bx, h2, h3, rfl⟩ hlt
    unfold scanTmps
    obtain ⟨x0, x1, x2, _, _, _⟩ := three_cells h3
    have c0 := h1.epo.cell
    have c1 := h1.bod.cell
    have i1 : IntKind.i64.wrap ((pre.length : Int) + 1) = (pre.length : Int) + 1 := IntWalk.i64_in _ (by omega)
    by_cases q1 : x.ep = ep
    · have e1 : (x.ep != ep) = false := by rw [q1]; simp
      by_cases q2 : x.sq = (pre.length : Int) + 1
      · have e2 : (x.sq != (pre.length : Int) + 1) = false := by rw [q2]; simp
        have hpl : (pre.map Fr.body).length = pre.length := List.length_map _
        obtain ⟨i0, hi, hz0, hz1, hz2⟩ := info_parts infoTx
        gi_wp2_with (gi_at_builtin; refine wpListIn_append_own _ rfl _ _ 32 rfl (w.heap.size + 4) 9 i0 (.string ⟨#[]⟩) 1 16 Tryz.underlying32 hi hz0 hz1 hz2 rfl (by decide) _ _ _ rfl (h1.row.alloc _) ⟨W.heap.size, 0, none⟩ 1 1 [.string (tx x.body)] rfl rfl (cell_one_new _ _ _) (by simp [Value.oneCell']) (by unfold maxLen; omega) (by omega) (by have := h1.big; simp; omega) ?_; intro v' w1 hown' hgrow _; obtain ⟨g', cap', rfl⟩ := ownsRow_succ hown'; obtain ⟨hv1, hv2, _, hk2, _⟩ := h1.bod.appended (by decide) (own_base h1.row (show w.heap.size ≤ w.heap.size + 4 by omega)) h1.old.size (by omega) (own_base hown' (show w.heap.size ≤ w.heap.size + 4 by omega)) hgrow; have hc1 := hv1.cell; have hf1 := hv1.frozen; have hfin1 : Boxed w1 (w.heap.size + 1 + 1) 3 (.int .i64 (endOf pre : Nat)) := (h1.fin.alloc _).kept hgrow (h1.fin.not_row (by decide) h1.row); have hc2 := hfin1.cell; have hf2 := hfin1.frozen)
        have hbox2 := hfin1.other (show w.heap.size + 1 + 1 ≠ w.heap.size + 1 by omega) (.slice (some ⟨g', 0, none⟩) (pre.length + 1) cap')
        have hkept : KeptF w.heap.size (w.heap.size + 1 + 1 + 1) W ((w1.setCell ⟨w.heap.size + 1, 0, none⟩ (.slice (some ⟨g', 0, none⟩) (pre.length + 1) cap')).setCell ⟨w.heap.size + 1 + 1, 0, none⟩ (.int .i64 x.upto)) :=
          kept_trans (kept_alloc W _ h1.old.size (by have := h1.big; omega)) (kept_trans (kept_row (h1.row.alloc _) hgrow (by omega) (by omega) (by have := h1.big; simp; omega) (by have := h1.big; simp; omega)) (kept_trans (kept_set (by omega) (by omega) hv1 (by decide) _) (kept_set (by omega) (by omega) hbox2 (by decide) _)))
        have hepo := (((h1.epo.alloc _).kept hgrow (h1.epo.not_row (by decide) h1.row)).other (show w.heap.size ≠ w.heap.size + 1 by omega) (.slice (some ⟨g', 0, none⟩) (pre.length + 1) cap')).other (show w.heap.size ≠ w.heap.size + 1 + 1 by omega) (.int .i64 x.upto)
        have hbod := hv2.other (show w.heap.size + 1 ≠ w.heap.size + 1 + 1 by omega) (.int .i64 x.upto)
        have hrow1 := owns_other hown' (grownBy_setCell' w1 (w.heap.size + 1) (.slice (some ⟨g', 0, none⟩) (pre.length + 1) cap')) (fun r e => by
          cases e
          exact ⟨_, hv1, fun cs fr e2 => by
            injection e2 with _ e3
            revert e3
            decide⟩)
        have hrow2 := owns_other hrow1 (grownBy_setCell' _ (w.heap.size + 1 + 1) (.int .i64 x.upto)) (fun r e => by
          cases e
          exact ⟨_, hbox2, fun cs fr e2 => by
            injection e2 with _ e3
            revert e3
            decide⟩)
        have hlen : (pre ++ [x]).length = pre.length + 1 := by simp
        have hcells : txCells ((pre ++ [x]).map Fr.body) = txCells (pre.map Fr.body) ++ [.string (tx x.body)] := by simp [txCells]
        refine ⟨(hk2.trans (KeepsOthers.setCell _ _ _)).from _, hkept, some ⟨g', 0, none⟩, cap', hepo, ?_, ?_, ?_, h1.old.trans hkept.1, good_snoc.2 ⟨h1.good, q1, q2⟩, Nat.le_trans h1.big hkept.1.size⟩
        · rw [hlen]; exact hbod
        · rw [hlen, hcells]; exact hrow2
        · rw [endOf_snoc]; exact hbox2.set _
      · have e2 : (x.sq != (pre.length : Int) + 1) = true := by rw [bne_iff_ne]; exact q2
        gi_wp2
        exact ⟨KeepsFrom.refl _ _, rfl, pre, x, a, c, rfl, h1, fun h => q2 h.2⟩
    · have e1 : (x.ep != ep) = true := by rw [bne_iff_ne]; exact q1
      gi_wp2
      exact ⟨KeepsFrom.refl _ _, rfl, pre, x, a, c, rfl, h1, fun h => q1 h.1⟩
  case done =>
    rintro D xs W hD ⟨q, hch, hE⟩ ⟨a, c, h1⟩ hK
    have c1 := h1.bod.cell
    have c2 : W.cell? ⟨w.heap.size + 1 + 1, 0, none⟩ = some (.int .i64 (endOf xs : Nat)) := h1.fin.cell
    gi_wp2
    gi_region
    gi_wp2
    refine ⟨by simp, .inl ⟨_, _, rfl, run_takeDeferred hK, ?_⟩⟩
    obtain ⟨k1, k2⟩ := chn_sc hch h1.good
    have hsv := sc_stop k1 (fun h => hE h.1)
    obtain ⟨o1, o2, o3⟩ := scan_out h1 (by omega) hK rfl rfl (.deferred none)
    refine ⟨_, results_tmp2 rfl _ _ _, a, c, ?_, ?_, ?_, o3⟩
    · rw [hsv, ← k2]
      simp only [List.length_map]
      rfl
    · rw [hsv]
      simp only [List.length_map]
      exact o1
    · rw [hsv]
      exact o2
  case stop =>
    rintro D j pre W hD ⟨q, hch⟩ ⟨rfl, init, x, a, c, rfl, h1, hno⟩ hK
    have c1 := h1.bod.cell
    have c2 : W.cell? ⟨w.heap.size + 1 + 1, 0, none⟩ = some (.int .i64 (endOf init : Nat)) := h1.fin.cell
    gi_wp2
    gi_region
    gi_wp2
    refine ⟨by simp, .inl ⟨_, _, rfl, run_takeDeferred hK, ?_⟩⟩
    obtain ⟨q', hch', hE, hx⟩ := chn_inv hch
    obtain ⟨k1, k2⟩ := chn_sc hch' h1.good
    have hsv := sc_stop k1 (fun h => hno (by
      rw [List.length_map] at h
      rw [hx]
      exact ⟨h.2.1, h.2.2⟩))
    obtain ⟨o1, o2, o3⟩ := scan_out h1 (by omega) hK rfl rfl (.deferred none)
    refine ⟨_, results_tmp2 rfl _ _ _, a, c, ?_, ?_, ?_, o3⟩
    · rw [hsv, ← k2]
      simp only [List.length_map]
      rfl
    · rw [hsv]
      simp only [List.length_map]
      exact o1
    · rw [hsv]
      exact o2
end Go.Proofs.YtcbmecpeockdeaaGreatDoor
