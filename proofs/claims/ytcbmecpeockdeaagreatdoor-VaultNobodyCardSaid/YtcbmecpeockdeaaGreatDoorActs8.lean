/- Acts that come in: a slice of structs of three numbers, a byte and a choice, and one of them by value. -/
import Derived.Test.YtcbmecpeockdeaaGreatDoorRef8e
import Derived.Deep.Slices
import Derived.Deep.Grids
import Derived.OpenShut
import Derived.WideShapes
import Derived.WalkArith
namespace Go.Proofs.YtcbmecpeockdeaaGreatDoor
open Go.RowKit Go.ChangeShapes Go.Deep

structure AV where
  kind : Int
  pos : Int
  num : Int
  byte : UInt8
  ka : Option Addr
  kc : Nat
  keep : List Bool
  torn : Int
  cut : Int
def AV.cells (a : AV) : List Value := [.int .i64 a.kind, .int .i64 a.pos, .int .i64 a.num, .int .u8 a.byte.toNat, .slice a.ka a.keep.length a.kc, .int .i64 a.torn, .int .i64 a.cut]
def noAct : AV := ⟨0, 0, 0, 0, none, 0, [], 0, 0⟩
/-- The numbers fit into an int, and the cells of what is kept lie below block B. -/
structure AV.Good (B : Nat) (w : World) (a : AV) : Prop where
  pos : Num64 a.pos
  num : Num64 a.num
  keep : Bools B w a.ka a.keep
  few : a.keep.length ≤ maxLen
def actAt (l : List AV) (i : Nat) : AV := l.getD i noAct
/-- A slice value whose elements are just these acts; its cells lie below block B. -/
def Acts (B : Nat) (w : World) (a : Option Addr) (l : List AV) : Prop :=
  l = [] ∨ ∃ b off, a = some ⟨b, off, none⟩ ∧ b < B ∧ ∀ j, j < l.length → (∀ i, i < 7 → w.cell? ⟨b, off + j * 7 + i, none⟩ = (actAt l j).cells[i]?) ∧ (actAt l j).Good B w
theorem AV.Good.below {B : Nat} {w w' : World} {a : AV} (h : a.Good B w) (hb : Below B w w') : a.Good B w' := ⟨h.pos, h.num, h.keep.below hb, h.few⟩
theorem Acts.below {B : Nat} {w w' : World} {a : Option Addr} {l : List AV} (h : Acts B w a l) (hb : Below B w w') : Acts B w' a l := by
  rcases h with h | ⟨b, off, ha, hB, hc⟩
  · exact Or.inl h
  · exact Or.inr ⟨b, off, ha, hB, fun j hj => ⟨fun i hi => (hb.cell (p := ⟨b, off + j * 7 + i, none⟩) hB).trans ((hc j hj).1 i hi), (hc j hj).2.below hb⟩⟩
theorem list_of8 {α : Type} (d : α) (n : Nat) (P : Nat → α → Prop) (h : ∀ i, i < n → ∃ p, P i p) : ∃ l : List α, l.length = n ∧ ∀ i, i < n → P i (l.getD i d) := by
  induction n with
  | zero => exact ⟨[], rfl, fun i hi => absurd hi (by omega)⟩
  | succ n ih =>
    obtain ⟨l, hl, hp⟩ := ih fun i hi => h i (by omega)
    obtain ⟨p, hp2⟩ := h n (by omega)
    refine ⟨l ++ [p], by simp [hl], fun i hi => ?_⟩
    rcases (by omega : i < n ∨ i = n) with g | g
    · have e : (l ++ [p]).getD i d = l.getD i d := by
        rw [List.getD_eq_getElem?_getD, List.getD_eq_getElem?_getD, List.getElem?_append_left (by omega)]
      rw [e]; exact hp i g
    · subst g
      have e : (l ++ [p]).getD i d = p := by
        rw [List.getD_eq_getElem?_getD, List.getElem?_append_right (by omega), hl, Nat.sub_self]; rfl
      rw [e]; exact hp2
theorem add_lies8 (b off : Nat) (i : Nat) : (⟨b, off, none⟩ : Addr).add i = ⟨b, off + i, none⟩ := by
  unfold Addr.add
  split
  · rename_i h; subst h; rfl
  · rfl
theorem num_of_wf {n : Int} (h : (Lit.int .i64 n).wf = true) : Num64 n := by
  simp [Lit.wf, IntKind.min, IntKind.max, IntKind.signed, IntKind.bits] at h
  unfold Num64; omega
theorem byte_of_wf8 {n : Int} (h : (Lit.int .u8 n).wf = true) : ∃ c : UInt8, n = c.toNat := by
  simp [Lit.wf, IntKind.min, IntKind.max, IntKind.signed, IntKind.bits] at h
  refine ⟨UInt8.ofNat n.toNat, ?_⟩
  rw [UInt8.toNat_ofNat']
  omega
/-- A slice of bools that came in. -/
theorem bools_of {H : Type} {enc : TypeId × Value → H} {base : Nat} {held : Bool} {t e : TypeId} {fuel : Nat} {cs : List Value} {W : World} {x : DataW H × List MemPlace} (ht : Tryz.prog.underlying t = some (.slice e)) (he : Tryz.prog.underlying e = some .bool) (hc : Tryz.prog.cellsOf e = 1)
    (h : DataW.trod enc Tryz.prog W base (fun _ => true) held fuel t cs = some x) :
    ∃ (a : Option Addr) (c : Nat) (l : List Bool), cs = [.slice a l.length c] ∧ l.length ≤ maxLen ∧ Bools W.heap.size W a l := by
  rcases open_bools ht he hc h with ⟨rfl, _⟩ | ⟨y, len, cap, B, rfl, _, hl, hm, _, hcell⟩
  · exact ⟨none, 0, [], rfl, by simp, Or.inl rfl⟩
  · refine ⟨some y, cap, (List.range len).map B, by simp, by simp; omega, ?_⟩
    rcases Nat.eq_zero_or_pos len with h0 | h0
    · subst h0; exact Or.inl (by simp)
    · obtain ⟨b, off, spot⟩ := y
      have hc0 := hcell 0 (by omega)
      have hspot : spot = none := by simpa [Addr.add] using World.cell?_spot hc0
      subst hspot
      refine Or.inr ⟨b, off, rfl, ?_, fun j hj => ?_⟩
      · rcases Nat.lt_or_ge b W.heap.size with h' | h'
        · exact h'
        · rw [World.cell?] at hc0
          simp [Addr.add, Array.getElem?_eq_none h'] at hc0
      · have hj' : j < len := by simpa using hj
        have h1 := hcell j (by omega)
        rw [add_lies8] at h1
        rw [h1, List.getD_eq_getElem?_getD, List.getElem?_map, List.getElem?_range hj']; rfl
theorem seven_of_cells {cs : List Value} {a b c d e f g : Value} (hl : cs.length = 7) (h0 : (cs.drop 0).take 1 = [a]) (h1 : (cs.drop 1).take 1 = [b]) (h2 : (cs.drop 2).take 1 = [c]) (h3 : (cs.drop 3).take 1 = [d]) (h4 : (((cs.drop 4).take 3).drop 0).take 1 = [e]) (h5 : (((cs.drop 4).take 3).drop 1).take 1 = [f]) (h6 : (((cs.drop 4).take 3).drop 2).take 1 = [g]) : cs = [a, b, c, d, e, f, g] := by
  match cs, hl with
  | [_, _, _, _, _, _, _], _ => simp at h0 h1 h2 h3 h4 h5 h6; simp [h0, h1, h2, h3, h4, h5, h6]
/-- The cells of one act, read as the form reads them. -/
theorem act_cells {H : Type} {enc : TypeId × Value → H} {base : Nat} {held : Bool} {fuel : Nat} {cs : List Value} {W : World} {x : DataW H × List MemPlace} {e i u ch sb bb : TypeId} {f0 f1 f2 f3 f4 q0 q1 q2 : Field}
    (he : Tryz.prog.underlying e = some (.struct #[f0, f1, f2, f3, f4])) (hch : Tryz.prog.underlying ch = some (.struct #[q0, q1, q2])) (hi : Tryz.prog.underlying i = some (.int .i64)) (hu : Tryz.prog.underlying u = some (.int .u8)) (hsb : Tryz.prog.underlying sb = some (.slice bb)) (hbb : Tryz.prog.underlying bb = some .bool)
    (hac : Tryz.prog.cellsOf e = 7) (hic : Tryz.prog.cellsOf i = 1) (huc : Tryz.prog.cellsOf u = 1) (hcc : Tryz.prog.cellsOf ch = 3) (hsc : Tryz.prog.cellsOf sb = 1) (hbc : Tryz.prog.cellsOf bb = 1)
    (t0 : f0.type = i) (t1 : f1.type = i) (t2 : f2.type = i) (t3 : f3.type = u) (t4 : f4.type = ch) (r0 : q0.type = sb) (r1 : q1.type = i) (r2 : q2.type = i)
    (o0 : f0.offset = 0) (o1 : f1.offset = 1) (o2 : f2.offset = 2) (o3 : f3.offset = 3) (o4 : f4.offset = 4) (p0 : q0.offset = 0) (p1 : q1.offset = 1) (p2 : q2.offset = 2)
    (h : DataW.trod enc Tryz.prog W base (fun _ => true) held fuel e cs = some x) :
    ∃ a : AV, cs = a.cells ∧ a.Good W.heap.size W := by
  obtain ⟨xs, n, _, _, hlen, hxl, hg⟩ := DataW.trod_struct he h
  have g0 := hg 0 f0 rfl
  have g1 := hg 1 f1 rfl
  have g2 := hg 2 f2 rfl
  have g3 := hg 3 f3 rfl
  have g4 := hg 4 f4 rfl
  rw [t0, o0, hic] at g0
  rw [t1, o1, hic] at g1
  rw [t2, o2, hic] at g2
  rw [t3, o3, huc] at g3
  rw [t4, o4, hcc] at g4
  match xs, hxl with
  | [y0, y1, y2, y3, y4], _ =>
    obtain ⟨n0, e0, _, _⟩ := DataW.trod_int hi g0
    obtain ⟨n1, e1, _, w1⟩ := DataW.trod_int hi g1
    obtain ⟨n2, e2, _, w2⟩ := DataW.trod_int hi g2
    obtain ⟨n3, e3, _, w3⟩ := DataW.trod_int hu g3
    obtain ⟨zs, n', _, _, _, hzl, hz⟩ := DataW.trod_struct hch g4
    have z0 := hz 0 q0 rfl
    have z1 := hz 1 q1 rfl
    have z2 := hz 2 q2 rfl
    rw [r0, p0, hsc] at z0
    rw [r1, p1, hic] at z1
    rw [r2, p2, hic] at z2
    match zs, hzl with
    | [u0, u1, u2], _ =>
      obtain ⟨ka, kc, keep, k0, k1, k2⟩ := bools_of hsb hbb hbc z0
      obtain ⟨m1, f1, _, _⟩ := DataW.trod_int hi z1
      obtain ⟨m2, f2, _, _⟩ := DataW.trod_int hi z2
      obtain ⟨c, rfl⟩ := byte_of_wf8 w3
      rw [hac] at hlen
      exact ⟨⟨n0, n1, n2, c, ka, kc, keep, m1, m2⟩, seven_of_cells hlen e0 e1 e2 e3 k0 f1 f2, ⟨num_of_wf w1, num_of_wf w2, k2, k1⟩⟩
theorem act_here {H : Type} {enc : TypeId × Value → H} {base : Nat} {held : Bool} {fuel : Nat} {cs : List Value} {W : World} {x : DataW H × List MemPlace} (h : DataW.trod enc Tryz.prog W base (fun _ => true) held fuel 44 cs = some x) :
    ∃ a : AV, cs = a.cells ∧ a.Good W.heap.size W :=
  act_cells Tryz.underlying44 Tryz.underlying39 Tryz.underlying3 Tryz.underlying5 Tryz.underlying37 Tryz.underlying4 (by kernel_rfl) (by kernel_rfl) (by kernel_rfl) (by kernel_rfl) (by kernel_rfl) (by kernel_rfl) rfl rfl rfl rfl rfl rfl rfl rfl rfl rfl rfl rfl rfl rfl rfl rfl h
/-- A slice of acts that came in, read as the form reads it. -/
theorem acts_of {H : Type} {enc : TypeId × Value → H} {base : Nat} {held : Bool} {fuel : Nat} {a : Option Addr} {len cap : Nat} {W : World} {x : DataW H × List MemPlace}
    (h : DataW.trod enc Tryz.prog W base (fun _ => true) held fuel 69 (Value.slice a len cap).cells.toList = some x) :
    ∃ l : List AV, l.length = len ∧ l.length ≤ maxLen ∧ Acts W.heap.size W a l := by
  have hac : Tryz.prog.cellsOf 44 = 7 := by kernel_rfl
  rcases open_slice Tryz.underlying69 h with ⟨hcs, _⟩ | ⟨y, n, c, m, fu, D, Pl, hcs, _, hl, hm, hmm, _, hel⟩
  · simp [Value.cells] at hcs
    obtain ⟨rfl, rfl, rfl⟩ := hcs
    exact ⟨[], rfl, by simp, Or.inl rfl⟩
  · simp [Value.cells] at hcs
    obtain ⟨rfl, rfl, rfl⟩ := hcs
    have hm2 : m = cap := by rw [hmm]; simp
    have key : ∀ j, j < len → ∃ p : AV, (∀ i, i < 7 → W.cell? ((y.add (j * 7)).add i) = p.cells[i]?) ∧ p.Good W.heap.size W := by
      intro j hj
      obtain ⟨cs, hcl, htr⟩ := hel j (by omega)
      rw [hac] at hcl
      obtain ⟨_, hlen, hat⟩ := World.cells?_some hcl
      obtain ⟨p, rfl, hg⟩ := act_here htr
      refine ⟨p, fun i hi => ?_, hg⟩
      have := hat i (by omega)
      rw [this]
    obtain ⟨l, hll, hp⟩ := list_of8 noAct len _ key
    refine ⟨l, hll, by omega, ?_⟩
    rcases Nat.eq_zero_or_pos len with h0 | h0
    · exact Or.inl (List.length_eq_zero_iff.1 (by omega))
    · obtain ⟨b, off, spot⟩ := y
      have hc0 := (hp 0 h0).1 0 (by omega)
      have hc1 : W.cell? (((⟨b, off, spot⟩ : Addr).add (0 * 7)).add 0) = some (.int .i64 (l.getD 0 noAct).kind) := hc0
      have hspot : spot = none := by simpa [Addr.add] using World.cell?_spot hc1
      subst hspot
      refine Or.inr ⟨b, off, rfl, ?_, fun j hj => ⟨fun i hi => ?_, (hp j (by omega)).2⟩⟩
      · rcases Nat.lt_or_ge b W.heap.size with h' | h'
        · exact h'
        · rw [World.cell?] at hc1
          simp [Addr.add, Array.getElem?_eq_none h'] at hc1
      · have := (hp j (by omega)).1 i hi
        rw [add_lies8, add_lies8] at this
        exact this
/-- One act that comes in by value. -/
theorem agg_of {P : Program} {w : World} {r : Reach} {b0 : Nat} {v : Value} {e : TypeId} {fs : Array Field} (he : P.underlying e = some (.struct fs)) (hv : Value.okWide P w r b0 e v) : ∃ cs : Array Value, v = .agg cs := by
  obtain ⟨cs, h, _⟩ := WideShapes.okWide_struct he hv
  exact ⟨cs, h⟩
set_option maxRecDepth 100000 in
theorem act_of {H : Type} {enc : TypeId × Value → H} {w : World} {base : Nat} {held : Bool} {r : Reach} {b0 : Nat} {v : Value} {d : DataW H} {p : List MemPlace} {e : TypeId} {fs : Array Field} (he : Tryz.prog.underlying e = some (.struct fs)) (e0 : e = 44)
    (hv : Value.okWide Tryz.prog w r b0 e v) (h : DataW.Trod enc Tryz.prog w base (fun _ => true) held e v d p) : ∃ a : AV, v = .agg a.cells.toArray ∧ a.Good w.heap.size w := by
  obtain ⟨cs, hcs⟩ := agg_of he hv
  subst hcs
  obtain ⟨fuel, hf⟩ := h
  rw [e0] at hf
  obtain ⟨a, ha, hg⟩ := act_here hf
  refine ⟨a, ?_, hg⟩
  obtain ⟨l⟩ := cs
  simp only [Value.cells] at ha
  rw [← ha]
end Go.Proofs.YtcbmecpeockdeaaGreatDoor
