/- What the calls of trail answer and do to a device, in plain words. -/
import Derived.Test.YtcbmecpeockdeaaGreatDoorMByte
import Derived.Test.YtcbmecpeockdeaaGreatDoorRows10
namespace Go.Proofs.YtcbmecpeockdeaaGreatDoor

def areaE (n : Nat) (f s : Int) : Int := if 1 ≤ s ∧ 0 ≤ f ∧ f + s ≤ n then 0 else 2
def fits11 (s p : Int) (len : Nat) : Bool := decide (0 ≤ p ∧ p ≤ s ∧ (nsec len : Int) ≤ s - p)
/-- What is told, and left, by Append. -/
def Dv.appE (d : Dv) (f s p ep sq : Int) (b : List UInt8) : Int :=
  if areaE d.cells.length f s ≠ 0 then areaE d.cells.length f s else if wrong10 ep sq b.length ≠ 0 then wrong10 ep sq b.length else if fits11 s p b.length = false then 22 else d.lastingE (f + p) (tx (put10 ep sq b))
def Dv.app (d : Dv) (f s p ep sq : Int) (b : List UInt8) : Dv :=
  if areaE d.cells.length f s = 0 ∧ wrong10 ep sq b.length = 0 ∧ fits11 s p b.length = true then d.lasting (f + p) (tx (put10 ep sq b)) else d
def Dv.appTo (d : Dv) (f s p ep sq : Int) (b : List UInt8) : Int := if d.appE f s p ep sq b = 0 then p + nsec b.length else 0
/-- What is told by Load. -/
def Dv.loadE (d : Dv) (f s : Int) : Int := if areaE d.cells.length f s ≠ 0 then areaE d.cells.length f s else d.readE f s
def Dv.loadV (d : Dv) (f s ep : Int) : List (List UInt8) × Nat := if d.loadE f s = 0 then scanV (d.readT f s).data.toList ep else ([], 0)
theorem app_good {d : Dv} {f s p ep sq : Int} {b : List UInt8} (h1 : areaE d.cells.length f s = 0) (h2 : wrong10 ep sq b.length = 0) (h3 : fits11 s p b.length = true) :
    d.appE f s p ep sq b = d.lastingE (f + p) (tx (put10 ep sq b)) ∧ d.app f s p ep sq b = d.lasting (f + p) (tx (put10 ep sq b)) := by
  refine ⟨?_, ?_⟩
  · unfold Dv.appE
    rw [if_neg (by omega), if_neg (by omega), if_neg (by rw [h3]; simp)]
  · unfold Dv.app
    rw [if_pos ⟨h1, h2, h3⟩]
theorem put_size (ep sq : Int) (b : List UInt8) : (tx (put10 ep sq b)).size = 64 * nsec b.length := by rw [tx_size, put10_len]
/-- A frame is appended to a still device. -/
theorem Still.app {d : Dv} {n : Nat} {C : List UInt8} (h : Still d n C) (f s p : Nat) (ep sq : Int) (b : List UInt8) (h1 : areaE n f s = 0) (h2 : wrong10 ep sq b.length = 0) (h3 : p + nsec b.length ≤ s) :
    d.appE f s p ep sq b = 0 ∧ d.appTo f s p ep sq b = ((p + nsec b.length : Nat) : Int) ∧ Still (d.app f s p ep sq b) n (C.take (64 * (f + p)) ++ (put10 ep sq b ++ C.drop (64 * (f + p + nsec b.length)))) := by
  have hf : fits11 s p b.length = true := by unfold fits11; exact decide_eq_true (by omega)
  obtain ⟨a1, a2⟩ := app_good (d := d) (f := f) (p := p) (by rw [h.len]; exact h1) h2 hf
  have hn : 1 ≤ (s : Int) ∧ 0 ≤ (f : Int) ∧ (f : Int) + s ≤ n := by
    unfold areaE at h1
    split at h1
    · assumption
    · omega
  have hup := nsec_up b.length
  obtain ⟨p1, p2, p3⟩ := h.put (f + p) (nsec b.length) (tx (put10 ep sq b)) (put_size ep sq b) hup.2.2 (by omega)
  rw [tx_list] at p3
  have e : (f : Int) + (p : Int) = ((f + p : Nat) : Int) := by omega
  rw [e] at a1 a2
  have hl : d.lasting ((f + p : Nat) : Int) (tx (put10 ep sq b)) = (d.write ((f + p : Nat) : Int) (tx (put10 ep sq b))).flush := by unfold Dv.lasting; rw [if_pos p1]
  have hlE : d.lastingE ((f + p : Nat) : Int) (tx (put10 ep sq b)) = 0 := by unfold Dv.lastingE; rw [if_pos p1, p2]
  rw [hlE] at a1
  rw [hl] at a2
  refine ⟨a1, ?_, ?_⟩
  · unfold Dv.appTo
    rw [if_pos a1]
    omega
  · rw [a2]; exact p3
/-- What is loaded of a still device. -/
theorem Still.load {d : Dv} {n : Nat} {C : List UInt8} (h : Still d n C) (f s : Nat) (ep : Int) (h1 : areaE n f s = 0) : d.loadE f s = 0 ∧ d.loadV f s ep = scanV ((C.drop (64 * f)).take (64 * s)) ep := by
  have hn : 1 ≤ (s : Int) ∧ 0 ≤ (f : Int) ∧ (f : Int) + s ≤ n := by
    unfold areaE at h1
    split at h1
    · assumption
    · omega
  obtain ⟨r1, r2⟩ := h.read f s (by omega) (by omega)
  have hE : d.loadE f s = 0 := by unfold Dv.loadE; rw [h.len, if_neg (by omega), r1]
  refine ⟨hE, ?_⟩
  unfold Dv.loadV
  rw [if_pos hE, r2]
theorem write_len11 (d : Dv) (p : Int) (t : ByteArray) : (d.write p t).cells.length = d.cells.length := by
  unfold Dv.write; split
  · exact wrote_len _ _ _ _
  · rfl
theorem flush_len11 (d : Dv) : d.flush.cells.length = d.cells.length := by
  unfold Dv.flush
  split
  · rfl
  · split
    · rfl
    · unfold flushed; simp
theorem lasting_len (d : Dv) (p : Int) (t : ByteArray) : (d.lasting p t).cells.length = d.cells.length := by
  unfold Dv.lasting
  split
  · rw [flush_len11, write_len11]
  · exact write_len11 _ _ _
theorem app_len (d : Dv) (f s p ep sq : Int) (b : List UInt8) : (d.app f s p ep sq b).cells.length = d.cells.length := by
  unfold Dv.app
  split
  · exact lasting_len _ _ _
  · rfl
theorem reach_le11 (d : Dv) (n : Nat) : d.reach n ≤ n := by unfold Dv.reach; split <;> omega
theorem write_ops11 (d : Dv) (p : Int) (t : ByteArray) : d.ops ≤ (d.write p t).ops ∧ (d.write p t).ops ≤ d.ops + t.size := by
  have hr := reach_le11 d (t.size / 64)
  unfold Dv.write
  split
  · show d.ops ≤ d.ops + (d.reach (t.size / 64) : Nat) ∧ d.ops + (d.reach (t.size / 64) : Nat) ≤ _
    omega
  · omega
theorem flush_ops11 (d : Dv) : d.ops ≤ d.flush.ops ∧ d.flush.ops ≤ d.ops + 1 := by
  unfold Dv.flush
  split
  · omega
  · split
    · show d.ops ≤ d.ops + 1 ∧ d.ops + 1 ≤ d.ops + 1; omega
    · show d.ops ≤ d.ops + 1 ∧ d.ops + 1 ≤ d.ops + 1; omega
theorem lasting_ops (d : Dv) (p : Int) (t : ByteArray) : d.ops ≤ (d.lasting p t).ops ∧ (d.lasting p t).ops ≤ d.ops + t.size + 1 := by
  have h1 := write_ops11 d p t
  have h2 := flush_ops11 (d.write p t)
  unfold Dv.lasting
  split <;> omega
theorem app_ops (d : Dv) (f s p ep sq : Int) (b : List UInt8) : d.ops ≤ (d.app f s p ep sq b).ops ∧ (d.app f s p ep sq b).ops ≤ d.ops + 64 * nsec b.length + 1 := by
  unfold Dv.app
  split
  · have := lasting_ops d (f + p) (tx (put10 ep sq b))
    rw [put_size] at this
    omega
  · omega
end Go.Proofs.YtcbmecpeockdeaaGreatDoor
namespace Go.Proofs.YtcbmecpeockdeaaGreatDoor

/-- A vault: its device, the sectors of a slot, the epoch, the frames, the place behind them, is it closed. -/
structure Vt where
  d : Dv
  s : Nat
  ep : Int
  sq : Int
  p : Int
  shut : Bool
def Vt.f (v : Vt) : Int := 2 * (v.s : Int)
def Vt.n (v : Vt) : Int := (v.d.cells.length : Int) - 2 * (v.s : Int)
/-- Both slots are read. -/
def heldE (d : Dv) (s : Nat) : Int := d.readE 0 (2 * (s : Int))
def heldT (d : Dv) (s : Nat) : List UInt8 := (d.readT 0 (2 * (s : Int))).data.toList
def heldA (d : Dv) (s : Nat) : List UInt8 := if heldE d s = 0 then (heldT d s).take (64 * s) else []
def heldB (d : Dv) (s : Nat) : List UInt8 := if heldE d s = 0 then (heldT d s).drop (64 * s) else []
def fits12 (s : Nat) (t : List UInt8) : Bool := decide (sect9 t.length ≤ s)
/-- The step that writes a snapshot. -/
def snapG (d : Dv) (s : Nat) : Int := nextG (heldA d s) (heldB d s)
def snapP (d : Dv) (s : Nat) : Int := nextS (heldA d s) (heldB d s) * (s : Int)
def snapE (d : Dv) (s : Nat) (t : List UInt8) : Int :=
  if fits12 s t = false then 22 else if heldE d s ≠ 0 then heldE d s else if snapG d s = 0 then 23 else d.lastingE (snapP d s) (tx (put9 (snapG d s) t))
def snapD (d : Dv) (s : Nat) (t : List UInt8) : Dv :=
  if fits12 s t = true ∧ heldE d s = 0 ∧ snapG d s ≠ 0 then d.lasting (snapP d s) (tx (put9 (snapG d s) t)) else d
def Vt.snap0 (v : Vt) (t : List UInt8) : Vt := if snapE v.d v.s t = 0 then ⟨snapD v.d v.s t, v.s, snapG v.d v.s, 0, 0, v.shut⟩ else { v with d := snapD v.d v.s t }
/-- The step that appends a frame. -/
def Vt.appE (v : Vt) (t : List UInt8) : Int := v.d.appE v.f v.n v.p v.ep (v.sq + 1) t
def Vt.app0 (v : Vt) (t : List UInt8) : Vt :=
  if v.appE t = 0 then ⟨v.d.app v.f v.n v.p v.ep (v.sq + 1) t, v.s, v.ep, v.sq + 1, v.d.appTo v.f v.n v.p v.ep (v.sq + 1) t, v.shut⟩ else { v with d := v.d.app v.f v.n v.p v.ep (v.sq + 1) t }
/-- The calls: a closed vault tells it, and a step that finds no power closes it. -/
def Vt.snapR (v : Vt) (t : List UInt8) : Int := if v.shut = true then 23 else snapE v.d v.s t
def Vt.snap (v : Vt) (t : List UInt8) : Vt := if v.shut = true then v else { v.snap0 t with shut := decide (snapE v.d v.s t = 20) }
def Vt.appR (v : Vt) (t : List UInt8) : Int := if v.shut = true then 23 else v.appE t
def Vt.append (v : Vt) (t : List UInt8) : Vt := if v.shut = true then v else { v.app0 t with shut := decide (v.appE t = 20) }
def Vt.room (v : Vt) (t : List UInt8) : Bool := !v.shut && fits11 v.n v.p t.length
def Vt.fits (v : Vt) (t : List UInt8) : Bool := !v.shut && fits12 v.s t
/-- A device is opened with slots that are in their limits. -/
def openI (d : Dv) (s : Nat) : Int := pickI (heldA d s) (heldB d s)
def openG (d : Dv) (s : Nat) : Int := pickG (heldA d s) (heldB d s)
def openE (d : Dv) (s : Nat) (t : List UInt8) : Int :=
  if heldE d s ≠ 0 then heldE d s else if openI d s = -1 then snapE d s t else d.loadE (2 * (s : Int)) ((d.cells.length : Int) - 2 * (s : Int))
def openL (d : Dv) (s : Nat) : List (List UInt8) × Nat := d.loadV (2 * (s : Int)) ((d.cells.length : Int) - 2 * (s : Int)) (openG d s)
/-- What is told of the vault, the text, the bodies; and the device that is left. -/
def openV (d : Dv) (s : Nat) (t : List UInt8) : Vt := if openI d s = -1 then ⟨snapD d s t, s, snapG d s, 0, 0, false⟩ else ⟨d, s, openG d s, ((openL d s).1.length : Int), ((openL d s).2 : Nat), false⟩
def openT (d : Dv) (s : Nat) (t : List UInt8) : List UInt8 := if openI d s = -1 then t else pickT (heldA d s) (heldB d s)
def openB (d : Dv) (s : Nat) : List (List UInt8) := if openI d s = -1 then [] else (openL d s).1
def openD (d : Dv) (s : Nat) (t : List UInt8) : Dv := if heldE d s = 0 ∧ openI d s = -1 then snapD d s t else d

/-- A device that keeps a text, and bodies behind it. -/
structure VDev (d : Dv) (n s : Nat) (ep : Int) (x : List UInt8) (l : List (List UInt8)) : Prop where
  s1 : 1 ≤ s ∧ s ≤ 500 ∧ 2 * s < n
  ep1 : 1 ≤ ep ∧ ep ≤ 1000000000
  puts : Puts ep 0 l
  dev : ∃ a b R, a.length = 64 * s ∧ b.length = 64 * s ∧ Still d n (a ++ (b ++ (framesL ep 0 l ++ R))) ∧ pickI a b ≠ -1 ∧ pickG a b = ep ∧ pickT a b = x ∧ ∀ e, ep ≤ e → NoEp e R
/-- A device with nothing. -/
def VNone (d : Dv) (n : Nat) : Prop := Still d n (List.replicate (64 * n) 0)
theorem val_zeros (k : Nat) : val (List.replicate k 0) = 0 := by
  induction k with
  | zero => rfl
  | succ k ih =>
    unfold val at ih ⊢
    rw [List.replicate_succ']
    rw [val_more, ih]
    rfl
theorem zeros_none9 (k : Nat) : getE9 (List.replicate k 0) ≠ 0 := fun h => by
  have := (get_parts h).2.2.1.1
  unfold gen9 at this
  rw [List.take_replicate, val_zeros] at this
  omega
theorem read_two {d : Dv} {n : Nat} {C : List UInt8} (h : Still d n C) (s : Nat) (h1 : 1 ≤ s) (h2 : 2 * s < n) : heldE d s = 0 ∧ heldT d s = C.take (128 * s) := by
  obtain ⟨r1, r2⟩ := h.read 0 (2 * s) (by omega) (by omega)
  have e : ((2 * s : Nat) : Int) = 2 * (s : Int) := by omega
  have e0 : ((0 : Nat) : Int) = 0 := rfl
  rw [e, e0] at r1 r2
  refine ⟨r1, ?_⟩
  unfold heldT
  rw [r2, Nat.mul_zero, List.drop_zero]
  congr 1
  omega
theorem held_two {d : Dv} {n s : Nat} {a b Z : List UInt8} (h : Still d n (a ++ (b ++ Z))) (ha : a.length = 64 * s) (hb : b.length = 64 * s) (h1 : 1 ≤ s) (h2 : 2 * s < n) : heldE d s = 0 ∧ heldA d s = a ∧ heldB d s = b := by
  obtain ⟨r1, r2⟩ := read_two h s h1 h2
  have e : (a ++ (b ++ Z)).take (128 * s) = a ++ b := by
    rw [← List.append_assoc, List.take_append_of_le_length (by rw [List.length_append]; omega), List.take_of_length_le (by rw [List.length_append]; omega)]
  refine ⟨r1, ?_, ?_⟩
  · unfold heldA; rw [if_pos r1, r2, e, ← ha, List.take_left]
  · unfold heldB; rw [if_pos r1, r2, e, ← ha, List.drop_left]
theorem area_vault {n s : Nat} (h : 2 * s < n) : areaE n ((2 * s : Nat) : Int) ((n - 2 * s : Nat) : Int) = 0 := by
  unfold areaE
  rw [if_pos (by omega)]
theorem noep_frames {e ep : Int} (he : ep ≠ e) (m : Nat) (l : List (List UInt8)) (R : List UInt8) (hp : Puts ep m l) (hR : NoEp e R) : NoEp e (framesL ep m l ++ R) := by
  induction l generalizing m with
  | nil => exact hR
  | cons b l ih =>
    show NoEp e (put10 ep ((m : Int) + 1) b ++ framesL ep (m + 1) l ++ R)
    rw [List.append_assoc]
    exact noep_put hp.1 he (ih (m + 1) hp.2)
theorem puts_snoc {ep : Int} (m : Nat) (l : List (List UInt8)) (b : List UInt8) (hp : Puts ep m l) (hb : wrong10 ep ((m : Int) + l.length + 1) b.length = 0) : Puts ep m (l ++ [b]) := by
  induction l generalizing m with
  | nil => exact ⟨by simpa using hb, trivial⟩
  | cons x l ih =>
    refine ⟨hp.1, ih (m + 1) hp.2 ?_⟩
    rw [← hb, List.length_cons]
    congr 1
    omega
/-- Where a snapshot lies that is taken. -/
theorem pick_put0 {g : Int} {t z b : List UInt8} (h : putE9 g t = 0) (hb : getG9 b ≤ g) : pickI (put9 g t ++ z) b = 0 ∧ pickG (put9 g t ++ z) b = g ∧ pickT (put9 g t ++ z) b = t := by
  obtain ⟨q1, q2, q3⟩ := back9 g t z h
  have hI : pickI (put9 g t ++ z) b = 0 := by
    unfold pickI
    rw [if_neg (fun x => x.1 q1), if_pos ⟨q1, Or.inr (by rw [q2]; exact hb)⟩]
  refine ⟨hI, ?_, ?_⟩
  · unfold pickG; rw [hI, if_neg (by omega), if_pos rfl, q2]
  · unfold pickT; rw [hI, if_neg (by omega), if_pos rfl, q3]
theorem pick_put1 {g : Int} {t z a : List UInt8} (h : putE9 g t = 0) (ha : getE9 a ≠ 0 ∨ getG9 a < g) : pickI a (put9 g t ++ z) = 1 ∧ pickG a (put9 g t ++ z) = g ∧ pickT a (put9 g t ++ z) = t := by
  obtain ⟨q1, q2, q3⟩ := back9 g t z h
  have hI : pickI a (put9 g t ++ z) = 1 := by
    unfold pickI
    rw [if_neg (fun x => x.2 q1), if_neg]
    rintro ⟨x1, x2⟩
    rcases x2 with x2 | x2
    · exact x2 q1
    · rw [q2] at x2
      rcases ha with q | q
      · exact q x1
      · omega
  refine ⟨hI, ?_, ?_⟩
  · unfold pickG; rw [hI, if_neg (by omega), if_neg (by omega), q2]
  · unfold pickT; rw [hI, if_neg (by omega), if_neg (by omega), q3]
theorem VDev.held {d : Dv} {n s : Nat} {ep : Int} {x : List UInt8} {l : List (List UInt8)} (h : VDev d n s ep x l) : heldE d s = 0 ∧ openI d s ≠ -1 ∧ openG d s = ep ∧ pickT (heldA d s) (heldB d s) = x ∧ d.cells.length = n := by
  obtain ⟨a, b, R, ha, hb, hd, h1, h2, h3, _⟩ := h.dev
  obtain ⟨r1, r2, r3⟩ := held_two hd ha hb h.s1.1 h.s1.2.2
  unfold openI openG
  rw [r2, r3]
  exact ⟨r1, h1, h2, h3, hd.len⟩
theorem VDev.load {d : Dv} {n s : Nat} {ep : Int} {x : List UInt8} {l : List (List UInt8)} (h : VDev d n s ep x l) : d.loadE (2 * (s : Int)) ((n : Int) - 2 * (s : Int)) = 0 ∧ d.loadV (2 * (s : Int)) ((n : Int) - 2 * (s : Int)) ep = (l, sumN l) := by
  obtain ⟨a, b, R, ha, hb, hd, _, _, _, h4⟩ := h.dev
  have hs := h.s1
  have hc := hd.clen
  have hfl := framesL_len ep 0 l
  rw [List.length_append, List.length_append, List.length_append, ha, hb, hfl] at hc
  obtain ⟨l1, l2⟩ := hd.load (2 * s) (n - 2 * s) ep (area_vault hs.2.2)
  have e1 : ((2 * s : Nat) : Int) = 2 * (s : Int) := by omega
  have e2 : ((n - 2 * s : Nat) : Int) = (n : Int) - 2 * (s : Int) := by omega
  rw [e1, e2] at l1 l2
  refine ⟨l1, ?_⟩
  have e3 : ((a ++ (b ++ (framesL ep 0 l ++ R))).drop (64 * (2 * s))).take (64 * (n - 2 * s)) = framesL ep 0 l ++ R := by
    rw [← List.append_assoc, List.drop_append, List.drop_of_length_le (by rw [List.length_append]; omega), List.nil_append, List.length_append, show 64 * (2 * s) - (a.length + b.length) = 0 by omega, List.drop_zero, List.take_of_length_le (by rw [List.length_append]; omega)]
  rw [l2, e3]
  exact scanV_frames ep l R h.puts (by omega) ((h4 ep (Int.le_refl _)).next _)
/-- What is opened of it. -/
theorem VDev.opened {d : Dv} {n s : Nat} {ep : Int} {x : List UInt8} {l : List (List UInt8)} (h : VDev d n s ep x l) (t : List UInt8) :
    openE d s t = 0 ∧ openV d s t = ⟨d, s, ep, l.length, (sumN l : Nat), false⟩ ∧ openT d s t = x ∧ openB d s = l ∧ openD d s t = d := by
  obtain ⟨h1, h2, h3, h4, h5⟩ := h.held
  obtain ⟨l1, l2⟩ := h.load
  have hL : openL d s = (l, sumN l) := by unfold openL; rw [h5, h3]; exact l2
  refine ⟨?_, ?_, ?_, ?_, ?_⟩
  · unfold openE; rw [if_neg (by omega), if_neg h2, h5]; exact l1
  · unfold openV; rw [if_neg h2, hL, h3]
  · unfold openT; rw [if_neg h2]; exact h4
  · unfold openB; rw [if_neg h2, hL]
  · unfold openD; rw [if_neg (fun q => h2 q.2)]
theorem VDev.boot {d : Dv} {n s : Nat} {ep : Int} {x : List UInt8} {l : List (List UInt8)} (h : VDev d n s ep x l) (keep : List Bool) (torn cut : Int) : VDev (d.off.boot keep torn cut) n s ep x l := by
  obtain ⟨a, b, R, ha, hb, hd, h1⟩ := h.dev
  exact ⟨h.s1, h.ep1, h.puts, a, b, R, ha, hb, hd.again keep torn cut, h1⟩
/-- A frame more. -/
theorem VDev.app {d : Dv} {n s : Nat} {ep : Int} {x : List UInt8} {l : List (List UInt8)} (h : VDev d n s ep x l) (t : List UInt8) (hw : wrong10 ep ((l.length : Int) + 1) t.length = 0) (hr : fits11 ((n : Int) - 2 * (s : Int)) (sumN l : Nat) t.length = true) :
    d.appE (2 * (s : Int)) ((n : Int) - 2 * (s : Int)) (sumN l : Nat) ep ((l.length : Int) + 1) t = 0 ∧ d.appTo (2 * (s : Int)) ((n : Int) - 2 * (s : Int)) (sumN l : Nat) ep ((l.length : Int) + 1) t = (sumN (l ++ [t]) : Nat) ∧
      VDev (d.app (2 * (s : Int)) ((n : Int) - 2 * (s : Int)) (sumN l : Nat) ep ((l.length : Int) + 1) t) n s ep x (l ++ [t]) := by
  obtain ⟨a, b, R, ha, hb, hd, h1, h2, h3, h4⟩ := h.dev
  have hs := h.s1
  have hfit := of_decide_eq_true (show decide _ = true from hr)
  have e1 : ((2 * s : Nat) : Int) = 2 * (s : Int) := by omega
  have e2 : ((n - 2 * s : Nat) : Int) = (n : Int) - 2 * (s : Int) := by omega
  obtain ⟨a1, a2, a3⟩ := hd.app (2 * s) (n - 2 * s) (sumN l) ep ((l.length : Int) + 1) t (area_vault hs.2.2) hw (by omega)
  rw [e1, e2] at a1 a2 a3
  refine ⟨a1, by rw [a2, sumN_snoc], hs, h.ep1, puts_snoc 0 l t h.puts (by rw [← hw]; congr 1; omega), a, b, R.drop (64 * nsec t.length), ha, hb, ?_, h1, h2, h3, fun e he => (h4 e he).drop _⟩
  have hk := keeps_step ep (a ++ b) R (2 * s) l t (by rw [List.length_append]; omega)
  rw [List.append_assoc, List.append_assoc] at hk
  rw [hk] at a3
  exact a3
theorem next_of {a b : List UInt8} {ep : Int} (h1 : pickI a b ≠ -1) (h2 : pickG a b = ep) : nextG a b = (if ep = 1000000000 then 0 else ep + 1) ∧ nextS a b = 1 - pickI a b := by
  unfold nextG nextS
  rw [if_neg h1, if_neg h1, h2]
  exact ⟨rfl, rfl⟩
theorem sect_least (n : Nat) : 1 ≤ sect9 n := by unfold sect9; omega
theorem put9_ok {g : Int} {t : List UInt8} (h1 : 1 ≤ g) (h2 : g ≤ 1000000000) {s : Nat} (hs : s ≤ 500) (ht : sect9 t.length ≤ s) : putE9 g t = 0 := by
  have := sect_up t.length
  unfold putE9
  rw [if_pos ⟨h1, h2⟩, if_pos (by omega)]
theorem lasting_put {d : Dv} {n : Nat} {C : List UInt8} (h : Still d n C) (p : Nat) (g : Int) (t : List UInt8) (h2 : p + sect9 t.length ≤ n) :
    d.lastingE p (tx (put9 g t)) = 0 ∧ Still (d.lasting p (tx (put9 g t))) n (C.take (64 * p) ++ (put9 g t ++ C.drop (64 * (p + sect9 t.length)))) := by
  obtain ⟨p1, p2, p3⟩ := h.put p (sect9 t.length) (tx (put9 g t)) (by rw [tx_size, put9_len]) (sect_least _) h2
  rw [tx_list] at p3
  refine ⟨?_, ?_⟩
  · unfold Dv.lastingE; rw [if_pos p1, p2]
  · unfold Dv.lasting; rw [if_pos p1]; exact p3
/-- Another text. -/
theorem VDev.snap {d : Dv} {n s : Nat} {ep : Int} {x : List UInt8} {l : List (List UInt8)} (h : VDev d n s ep x l) (t : List UInt8) (ht : fits12 s t = true) (he : ep ≠ 1000000000) :
    snapE d s t = 0 ∧ snapG d s = ep + 1 ∧ VDev (snapD d s t) n s (ep + 1) t [] := by
  obtain ⟨a, b, R, ha, hb, hd, h1, h2, h3, h4⟩ := h.dev
  have hs := h.s1
  have hep := h.ep1
  have htl := of_decide_eq_true (show decide _ = true from ht)
  obtain ⟨r1, r2, r3⟩ := held_two hd ha hb hs.1 hs.2.2
  obtain ⟨n1, n2⟩ := next_of h1 h2
  rw [if_neg he] at n1
  have hG : snapG d s = ep + 1 := by unfold snapG; rw [r2, r3, n1]
  have hP : snapP d s = (1 - pickI a b) * (s : Int) := by unfold snapP; rw [r2, r3, n2]
  have hE : snapE d s t = d.lastingE (snapP d s) (tx (put9 (ep + 1) t)) := by
    unfold snapE
    rw [if_neg (by rw [ht]; simp), if_neg (by omega), if_neg (by omega), hG]
  have hD : snapD d s t = d.lasting (snapP d s) (tx (put9 (ep + 1) t)) := by
    unfold snapD
    rw [if_pos ⟨ht, r1, by omega⟩, hG]
  have hput : putE9 (ep + 1) t = 0 := put9_ok (by omega) (by omega) hs.2.1 htl
  have hpl := put9_len (ep + 1) t
  have hNo : ∀ e, ep + 1 ≤ e → NoEp e (framesL ep 0 l ++ R) := fun e hee => noep_frames (by omega) 0 l R h.puts (h4 e (by omega))
  obtain ⟨J, hJ⟩ : ∃ J, framesL ep 0 l ++ R = J := ⟨_, rfl⟩
  rw [hJ] at hNo hd
  rw [hE, hD]
  refine ⟨?_, hG, ⟨hs, by omega, trivial, ?_⟩⟩
  · rcases pick_cases a b with ⟨q, _⟩ | ⟨q, _⟩ | ⟨q, _⟩
    · exact absurd q h1
    · rw [hP, q, show (1 - 0 : Int) * (s : Int) = (s : Nat) by omega]
      exact (lasting_put hd s (ep + 1) t (by omega)).1
    · rw [hP, q, show (1 - 1 : Int) * (s : Int) = (0 : Nat) by omega]
      exact (lasting_put hd 0 (ep + 1) t (by omega)).1
  · rcases pick_cases a b with ⟨q, _⟩ | ⟨q, q2, q3⟩ | ⟨q, q2, q3⟩
    · exact absurd q h1
    · have hg : getG9 a = ep := by unfold pickG at h2; rw [q, if_neg (by omega), if_pos rfl] at h2; exact h2
      obtain ⟨w1, w2, w3⟩ := pick_put1 (z := b.drop (64 * sect9 t.length)) hput (Or.inr (by rw [hg]; omega) : getE9 a ≠ 0 ∨ getG9 a < ep + 1)
      refine ⟨a, put9 (ep + 1) t ++ b.drop (64 * sect9 t.length), J, ha, by rw [List.length_append, List.length_drop, hpl]; omega, ?_, by rw [w1]; omega, w2, w3, hNo⟩
      have p2 := (lasting_put hd s (ep + 1) t (by omega)).2
      rw [hP, q, show (1 - 0 : Int) * (s : Int) = (s : Nat) by omega]
      have e1 : (a ++ (b ++ J)).take (64 * s) = a := by rw [← ha, List.take_left]
      have e2 : (a ++ (b ++ J)).drop (64 * (s + sect9 t.length)) = b.drop (64 * sect9 t.length) ++ J := by
        rw [Nat.mul_add, ← List.drop_drop, ← ha, List.drop_left, List.drop_append_of_le_length (by omega)]
      rw [e1, e2] at p2
      rw [show framesL (ep + 1) 0 [] = [] from rfl, List.nil_append, List.append_assoc]
      exact p2
    · have hg : getG9 b = ep := by unfold pickG at h2; rw [q, if_neg (by omega), if_neg (by omega)] at h2; exact h2
      obtain ⟨w1, w2, w3⟩ := pick_put0 (z := a.drop (64 * sect9 t.length)) hput (by rw [hg]; omega : getG9 b ≤ ep + 1)
      refine ⟨put9 (ep + 1) t ++ a.drop (64 * sect9 t.length), b, J, by rw [List.length_append, List.length_drop, hpl]; omega, hb, ?_, by rw [w1]; omega, w2, w3, hNo⟩
      have p2 := (lasting_put hd 0 (ep + 1) t (by omega)).2
      rw [hP, q, show (1 - 1 : Int) * (s : Int) = (0 : Nat) by omega]
      have e2 : (a ++ (b ++ J)).drop (64 * (0 + sect9 t.length)) = a.drop (64 * sect9 t.length) ++ (b ++ J) := by
        rw [Nat.zero_add, List.drop_append_of_le_length (by omega)]
      rw [e2, Nat.mul_zero, List.take_zero, List.nil_append] at p2
      rw [show framesL (ep + 1) 0 [] = [] from rfl, List.nil_append, List.append_assoc]
      exact p2
/-- The first text, on a device with nothing. -/
theorem none_open {d : Dv} {n : Nat} (h : VNone d n) (s : Nat) (h1 : 1 ≤ s) (h2 : s ≤ 500) (h3 : 2 * s < n) (t : List UInt8) (ht : fits12 s t = true) :
    openE d s t = 0 ∧ openV d s t = ⟨openD d s t, s, 1, 0, 0, false⟩ ∧ openT d s t = t ∧ openB d s = [] ∧ VDev (openD d s t) n s 1 t [] := by
  have htl := of_decide_eq_true (show decide _ = true from ht)
  have hz : List.replicate (64 * n) (0 : UInt8) = List.replicate (64 * s) 0 ++ (List.replicate (64 * s) 0 ++ List.replicate (64 * (n - 2 * s)) 0) := by
    rw [List.replicate_append_replicate, List.replicate_append_replicate]
    congr 1
    omega
  have hd := h
  unfold VNone at hd
  rw [hz] at hd
  obtain ⟨r1, r2, r3⟩ := held_two hd List.length_replicate List.length_replicate h1 h3
  have hI : pickI (List.replicate (64 * s) (0 : UInt8)) (List.replicate (64 * s) 0) = -1 := by
    unfold pickI
    rw [if_pos ⟨zeros_none9 _, zeros_none9 _⟩]
  have hoI : openI d s = -1 := by unfold openI; rw [r2, r3, hI]
  have hG : snapG d s = 1 := by unfold snapG nextG; rw [r2, r3, if_pos hI]
  have hP : snapP d s = (0 : Nat) := by unfold snapP nextS; rw [r2, r3, if_pos hI]; omega
  have hput : putE9 1 t = 0 := put9_ok (by omega) (by omega) h2 htl
  have hpl := put9_len 1 t
  obtain ⟨p1, p2⟩ := lasting_put hd 0 1 t (by omega)
  have hE : snapE d s t = 0 := by
    unfold snapE
    rw [if_neg (by rw [ht]; simp), if_neg (by omega), if_neg (by omega), hG, hP]
    exact p1
  have hD : snapD d s t = d.lasting (0 : Nat) (tx (put9 1 t)) := by
    unfold snapD
    rw [if_pos ⟨ht, r1, by omega⟩, hG, hP]
  have hoD : openD d s t = snapD d s t := by unfold openD; rw [if_pos ⟨r1, hoI⟩]
  refine ⟨?_, ?_, ?_, ?_, ⟨⟨h1, h2, h3⟩, by omega, trivial, ?_⟩⟩
  · unfold openE; rw [if_neg (by omega), if_pos hoI, hE]
  · unfold openV; rw [if_pos hoI, hG, hoD]
  · unfold openT; rw [if_pos hoI]
  · unfold openB; rw [if_pos hoI]
  · obtain ⟨w1, w2, w3⟩ := pick_put0 (z := (List.replicate (64 * s) (0 : UInt8)).drop (64 * sect9 t.length)) hput (b := List.replicate (64 * s) 0) (by
      have : getG9 (List.replicate (64 * s) (0 : UInt8)) = 0 := by unfold getG9; rw [if_neg (zeros_none9 _)]
      omega)
    refine ⟨put9 1 t ++ (List.replicate (64 * s) (0 : UInt8)).drop (64 * sect9 t.length), List.replicate (64 * s) 0, List.replicate (64 * (n - 2 * s)) 0, by rw [List.length_append, List.length_drop, hpl, List.length_replicate]; omega, List.length_replicate, ?_, by rw [w1]; omega, w2, w3, fun e _ => noep_zeros e _⟩
    rw [hoD, hD, show framesL 1 0 [] = [] from rfl, List.nil_append, List.append_assoc]
    have e2 : (List.replicate (64 * s) (0 : UInt8) ++ (List.replicate (64 * s) 0 ++ List.replicate (64 * (n - 2 * s)) 0)).drop (64 * (0 + sect9 t.length)) = (List.replicate (64 * s) (0 : UInt8)).drop (64 * sect9 t.length) ++ (List.replicate (64 * s) 0 ++ List.replicate (64 * (n - 2 * s)) 0) := by
      rw [Nat.zero_add, List.drop_append_of_le_length (by rw [List.length_replicate]; omega)]
    rw [e2, Nat.mul_zero, List.take_zero, List.nil_append] at p2
    exact p2
/-- A vault that is open, on a device that keeps what it has. -/
structure VKept (v : Vt) (n : Nat) (x : List UInt8) (l : List (List UInt8)) : Prop where
  dev : VDev v.d n v.s v.ep x l
  on : v.shut = false
  sq : v.sq = (l.length : Int)
  at_ : v.p = (sumN l : Nat)
theorem VKept.append {v : Vt} {n : Nat} {x : List UInt8} {l : List (List UInt8)} (h : VKept v n x l) (t : List UInt8) :
    (v.appR t = 0 ∧ VKept (v.append t) n x (l ++ [t])) ∨ (v.appR t ≠ 0 ∧ v.append t = v) := by
  have hlen : v.d.cells.length = n := h.dev.held.2.2.2.2
  have hs := h.dev.s1
  have hA : areaE v.d.cells.length v.f v.n = 0 := by
    unfold areaE Vt.f Vt.n
    rw [hlen, if_pos (by omega)]
  have hR : v.appR t = v.appE t := by unfold Vt.appR; rw [h.on, if_neg (by simp)]
  have hX : v.append t = { v.app0 t with shut := decide (v.appE t = 20) } := by unfold Vt.append; rw [h.on, if_neg (by simp)]
  by_cases hw : wrong10 v.ep (v.sq + 1) t.length = 0
  · by_cases hr : fits11 v.n v.p t.length = true
    · left
      have hw' := hw
      have hr' := hr
      unfold Vt.n at hr'
      rw [h.sq] at hw'
      rw [h.at_, hlen] at hr'
      obtain ⟨a1, a2, a3⟩ := h.dev.app t hw' hr'
      have e0 : v.appE t = 0 := by unfold Vt.appE Vt.f Vt.n; rw [hlen, h.sq, h.at_]; exact a1
      refine ⟨by rw [hR, e0], ?_⟩
      rw [hX]
      unfold Vt.app0
      rw [e0, if_pos rfl]
      refine ⟨?_, rfl, ?_, ?_⟩
      · show VDev (v.d.app v.f v.n v.p v.ep (v.sq + 1) t) n v.s v.ep x (l ++ [t])
        unfold Vt.f Vt.n
        rw [hlen, h.sq, h.at_]
        exact a3
      · show v.sq + 1 = _
        rw [h.sq, List.length_append, List.length_singleton]
        omega
      · show v.d.appTo v.f v.n v.p v.ep (v.sq + 1) t = _
        unfold Vt.f Vt.n
        rw [hlen, h.sq, h.at_]
        exact a2
    · right
      have hr2 : fits11 v.n v.p t.length = false := by simpa using hr
      have e0 : v.appE t = 22 := by unfold Vt.appE Dv.appE; rw [if_neg (by omega), if_neg (by omega), if_pos hr2]
      have d0 : v.d.app v.f v.n v.p v.ep (v.sq + 1) t = v.d := by unfold Dv.app; rw [if_neg (fun q => hr q.2.2)]
      refine ⟨by rw [hR, e0]; omega, ?_⟩
      rw [hX]
      unfold Vt.app0
      rw [e0, if_neg (by omega), d0]
      have hon := h.on
      obtain ⟨d, s, ep, sq, p, sh⟩ := v
      simp only at hon
      subst hon
      rfl
  · right
    have e0 : v.appE t = wrong10 v.ep (v.sq + 1) t.length := by unfold Vt.appE Dv.appE; rw [if_neg (by omega), if_pos hw]
    have e1 : wrong10 v.ep (v.sq + 1) t.length ≠ 20 := by
      unfold wrong10
      split
      · split <;> omega
      · omega
    have d0 : v.d.app v.f v.n v.p v.ep (v.sq + 1) t = v.d := by unfold Dv.app; rw [if_neg (fun q => hw q.2.1)]
    refine ⟨by rw [hR, e0]; exact hw, ?_⟩
    rw [hX]
    unfold Vt.app0
    rw [e0, if_neg hw, d0, decide_eq_false e1]
    have hon := h.on
    obtain ⟨d, s, ep, sq, p, sh⟩ := v
    simp only at hon
    subst hon
    rfl
theorem VKept.snap {v : Vt} {n : Nat} {x : List UInt8} {l : List (List UInt8)} (h : VKept v n x l) (t : List UInt8) :
    (v.snapR t = 0 ∧ VKept (v.snap t) n t []) ∨ (v.snapR t ≠ 0 ∧ v.snap t = v) := by
  have hR : v.snapR t = snapE v.d v.s t := by unfold Vt.snapR; rw [h.on, if_neg (by simp)]
  have hX : v.snap t = { v.snap0 t with shut := decide (snapE v.d v.s t = 20) } := by unfold Vt.snap; rw [h.on, if_neg (by simp)]
  by_cases ht : fits12 v.s t = true
  · by_cases he : v.ep = 1000000000
    · right
      obtain ⟨a, b, R, ha, hb, hd, h1, h2, _, _⟩ := h.dev.dev
      obtain ⟨r1, r2, r3⟩ := held_two hd ha hb h.dev.s1.1 h.dev.s1.2.2
      have hG : snapG v.d v.s = 0 := by unfold snapG; rw [r2, r3, (next_of h1 h2).1, if_pos he]
      have e0 : snapE v.d v.s t = 23 := by unfold snapE; rw [if_neg (by rw [ht]; simp), if_neg (by omega), if_pos hG]
      have d0 : snapD v.d v.s t = v.d := by unfold snapD; rw [if_neg (fun q => q.2.2 hG)]
      refine ⟨by rw [hR, e0]; omega, ?_⟩
      rw [hX]
      unfold Vt.snap0
      rw [e0, if_neg (by omega), d0]
      have hon := h.on
      obtain ⟨d, s, ep, sq, p, sh⟩ := v
      simp only at hon
      subst hon
      rfl
    · left
      obtain ⟨a1, a2, a3⟩ := h.dev.snap t ht he
      refine ⟨by rw [hR, a1], ?_⟩
      rw [hX]
      unfold Vt.snap0
      rw [a1, if_pos rfl, a2]
      exact ⟨a3, rfl, rfl, rfl⟩
  · right
    have ht2 : fits12 v.s t = false := by simpa using ht
    have e0 : snapE v.d v.s t = 22 := by unfold snapE; rw [if_pos ht2]
    have d0 : snapD v.d v.s t = v.d := by unfold snapD; rw [if_neg (fun q => ht q.1)]
    refine ⟨by rw [hR, e0]; omega, ?_⟩
    rw [hX]
    unfold Vt.snap0
    rw [e0, if_neg (by omega), d0]
    have hon := h.on
    obtain ⟨d, s, ep, sq, p, sh⟩ := v
    simp only at hon
    subst hon
    rfl
end Go.Proofs.YtcbmecpeockdeaaGreatDoor
