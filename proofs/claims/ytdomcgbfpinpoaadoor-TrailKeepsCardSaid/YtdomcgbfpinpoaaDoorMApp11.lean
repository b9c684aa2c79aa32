/- What the calls of trail answer and do to a device, in plain words. -/
import Derived.Test.YtdomcgbfpinpoaaDoorMByte
import Derived.Test.YtdomcgbfpinpoaaDoorRows10
namespace Go.Proofs.YtdomcgbfpinpoaaDoor

def areaE (n : Nat) (f s : Int) : Int := if 1 ≤ s ∧ 0 ≤ f ∧ f + s ≤ n then 0 else 2
def fits11 (s p : Int) (len : Nat) : Bool := decide (0 ≤ p ∧ p ≤ s ∧ (nsec len : Int) ≤ s - p)
/-- What is told, and left, by Append. -/
def Dv.appE (d : Dv) (f s p ep sq : Int) (b : List UInt8) : Int :=
  if areaE d.cells.length f s ≠ 0 then areaE d.cells.length f s else if wrong10 ep sq b.length ≠ 0 then wrong10 ep sq b.length else if fits11 s p b.length = false then 22 else d.lastingE (f + p) (tx (put10 ep sq b))
def Dv.app (d : Dv) (f s p ep sq : Int) (b : List UInt8) : Dv :=
  if areaE d.cells.length f s = 0 ∧ wrong10 ep sq b.length = 0 ∧ fits11 s p b.length = true then d.lasting (f + p) (tx (put10 ep sq b)) else d
def Dv.appTo (d : Dv) (f s p ep sq : Int) (b : List UInt8) : Int := if d.appE f s p ep sq b = 0 then p + nsec b.length else 0
/-- What is told by Load. -/
def Dv.loadE (d : Dv) (f s : Int) : Int := if areaE d.cells.length f s ≠ 0 then areaE d.cells.length f s else d.readE f s
def Dv.loadV (d : Dv) (f s ep : Int) : List (List UInt8) × Nat := if d.loadE f s = 0 then scanV (d.readT f s).data.toList ep else ([], 0)
theorem app_good {d : Dv} {f s p ep sq : Int} {b : List UInt8} (h1 : areaE d.cells.length f s = 0) (h2 : wrong10 ep sq b.length = 0) (h3 : fits11 s p b.length = true) :
    d.appE f s p ep sq b = d.lastingE (f + p) (tx (put10 ep sq b)) ∧ d.app f s p ep sq b = d.lasting (f + p) (tx (put10 ep sq b)) := by
  refine ⟨?_, ?_⟩
  · unfold Dv.appE
    rw [if_neg (by omega), if_neg (by omega), if_neg (by rw [h3]; simp)]
  · unfold Dv.app
    rw [if_pos ⟨h1, h2, h3⟩]
theorem put_size (ep sq : Int) (b : List UInt8) : (tx (put10 ep sq b)).size = 64 * nsec b.length := by rw [tx_size, put10_len]
/-- A frame is appended to a still device. -/
theorem Still.app {d : Dv} {n : Nat} {C : List UInt8} (h : Still d n C) (f s p : Nat) (ep sq : Int) (b : List UInt8) (h1 : areaE n f s = 0) (h2 : wrong10 ep sq b.length = 0) (h3 : p + nsec b.length ≤ s) :
    d.appE f s p ep sq b = 0 ∧ d.appTo f s p ep sq b = ((p + nsec b.length : Nat) : Int) ∧ Still (d.app f s p ep sq b) n (C.take (64 * (f + p)) ++ (put10 ep sq b ++ C.drop (64 * (f + p + nsec b.length)))) := by
  have hf : fits11 s p b.length = true := by unfold fits11; exact decide_eq_true (by omega)
  obtain ⟨a1, a2⟩ := app_good (d := d) (f := f) (p := p) (by rw [h.len]; exact h1) h2 hf
  have hn : 1 ≤ (s : Int) ∧ 0 ≤ (f : Int) ∧ (f : Int) + s ≤ n := by
    unfold areaE at h1
    split at h1
    · assumption
    · omega
  have hup := nsec_up b.length
  obtain ⟨p1, p2, p3⟩ := h.put (f + p) (nsec b.length) (tx (put10 ep sq b)) (put_size ep sq b) hup.2.2 (by omega)
  rw [tx_list] at p3
  have e : (f : Int) + (p : Int) = ((f + p : Nat) : Int) := by omega
  rw [e] at a1 a2
  have hl : d.lasting ((f + p : Nat) : Int) (tx (put10 ep sq b)) = (d.write ((f + p : Nat) : Int) (tx (put10 ep sq b))).flush := by unfold Dv.lasting; rw [if_pos p1]
  have hlE : d.lastingE ((f + p : Nat) : Int) (tx (put10 ep sq b)) = 0 := by unfold Dv.lastingE; rw [if_pos p1, p2]
  rw [hlE] at a1
  rw [hl] at a2
  refine ⟨a1, ?_, ?_⟩
  · unfold Dv.appTo
    rw [if_pos a1]
    omega
  · rw [a2]; exact p3
/-- What is loaded of a still device. -/
theorem Still.load {d : Dv} {n : Nat} {C : List UInt8} (h : Still d n C) (f s : Nat) (ep : Int) (h1 : areaE n f s = 0) : d.loadE f s = 0 ∧ d.loadV f s ep = scanV ((C.drop (64 * f)).take (64 * s)) ep := by
  have hn : 1 ≤ (s : Int) ∧ 0 ≤ (f : Int) ∧ (f : Int) + s ≤ n := by
    unfold areaE at h1
    split at h1
    · assumption
    · omega
  obtain ⟨r1, r2⟩ := h.read f s (by omega) (by omega)
  have hE : d.loadE f s = 0 := by unfold Dv.loadE; rw [h.len, if_neg (by omega), r1]
  refine ⟨hE, ?_⟩
  unfold Dv.loadV
  rw [if_pos hE, r2]
theorem write_len11 (d : Dv) (p : Int) (t : ByteArray) : (d.write p t).cells.length = d.cells.length := by
  unfold Dv.write; split
  · exact wrote_len _ _ _ _
  · rfl
theorem flush_len11 (d : Dv) : d.flush.cells.length = d.cells.length := by
  unfold Dv.flush
  split
  · rfl
  · split
    · rfl
    · unfold flushed; simp
theorem lasting_len (d : Dv) (p : Int) (t : ByteArray) : (d.lasting p t).cells.length = d.cells.length := by
  unfold Dv.lasting
  split
  · rw [flush_len11, write_len11]
  · exact write_len11 _ _ _
theorem app_len (d : Dv) (f s p ep sq : Int) (b : List UInt8) : (d.app f s p ep sq b).cells.length = d.cells.length := by
  unfold Dv.app
  split
  · exact lasting_len _ _ _
  · rfl
theorem reach_le11 (d : Dv) (n : Nat) : d.reach n ≤ n := by unfold Dv.reach; split <;> omega
theorem write_ops11 (d : Dv) (p : Int) (t : ByteArray) : d.ops ≤ (d.write p t).ops ∧ (d.write p t).ops ≤ d.ops + t.size := by
  have hr := reach_le11 d (t.size / 64)
  unfold Dv.write
  split
  · show d.ops ≤ d.ops + (d.reach (t.size / 64) : Nat) ∧ d.ops + (d.reach (t.size / 64) : Nat) ≤ _
    omega
  · omega
theorem flush_ops11 (d : Dv) : d.ops ≤ d.flush.ops ∧ d.flush.ops ≤ d.ops + 1 := by
  unfold Dv.flush
  split
  · omega
  · split
    · show d.ops ≤ d.ops + 1 ∧ d.ops + 1 ≤ d.ops + 1; omega
    · show d.ops ≤ d.ops + 1 ∧ d.ops + 1 ≤ d.ops + 1; omega
theorem lasting_ops (d : Dv) (p : Int) (t : ByteArray) : d.ops ≤ (d.lasting p t).ops ∧ (d.lasting p t).ops ≤ d.ops + t.size + 1 := by
  have h1 := write_ops11 d p t
  have h2 := flush_ops11 (d.write p t)
  unfold Dv.lasting
  split <;> omega
theorem app_ops (d : Dv) (f s p ep sq : Int) (b : List UInt8) : d.ops ≤ (d.app f s p ep sq b).ops ∧ (d.app f s p ep sq b).ops ≤ d.ops + 64 * nsec b.length + 1 := by
  unfold Dv.app
  split
  · have := lasting_ops d (f + p) (tx (put10 ep sq b))
    rw [put_size] at this
    omega
  · omega
end Go.Proofs.YtdomcgbfpinpoaaDoor
namespace Go.Proofs.YtdomcgbfpinpoaaDoor

/-- The bodies of the law: few, and short. -/
def Short11 (xs : List (List UInt8)) : Prop := xs.length ≤ 20 ∧ ∀ x ∈ xs, x.length ≤ 400
theorem short_sum {xs : List (List UInt8)} (h : ∀ x ∈ xs, x.length ≤ 400) : sumN xs ≤ 7 * xs.length := by
  induction xs with
  | nil => exact Nat.le_refl _
  | cons x xs ih =>
    have h1 := h x (by simp)
    have h2 := ih fun y hy => h y (by simp [hy])
    have h3 : nsec x.length ≤ 7 := by unfold nsec; omega
    rw [sumN_cons, List.length_cons]
    omega
theorem take_more11 {xs : List (List UInt8)} {i : Nat} (hi : i < xs.length) : xs.take (i + 1) = xs.take i ++ [rowAt xs i] := by
  rw [List.take_succ_eq_append_getElem hi]
  unfold rowAt
  rw [List.getD_eq_getElem?_getD, List.getElem?_eq_getElem hi]
  rfl
theorem row_mem {xs : List (List UInt8)} {i : Nat} (hi : i < xs.length) : rowAt xs i ∈ xs := by
  unfold rowAt
  rw [List.getD_eq_getElem?_getD, List.getElem?_eq_getElem hi]
  exact List.getElem_mem hi
/-- So far so many bodies: where the next frame goes, and that it has room. -/
theorem short_step {xs : List (List UInt8)} (h : Short11 xs) {i : Nat} (hi : i < xs.length) :
    (xs.take i).length = i ∧ sumN (xs.take i) ≤ 7 * i ∧ (rowAt xs i).length ≤ 400 ∧ nsec (rowAt xs i).length ≤ 7 ∧ sumN (xs.take (i + 1)) = sumN (xs.take i) + nsec (rowAt xs i).length := by
  have h1 : (xs.take i).length = i := by rw [List.length_take]; omega
  have h2 := short_sum (xs := xs.take i) fun x hx => h.2 x (List.mem_of_mem_take hx)
  have h3 := h.2 _ (row_mem hi)
  refine ⟨h1, by rw [h1] at h2; exact h2, h3, by unfold nsec; omega, ?_⟩
  rw [take_more11 hi, sumN_snoc]
theorem puts_short {ep : Int} (he : 1 ≤ ep ∧ ep ≤ 1000000000) {xs : List (List UInt8)} (hx : ∀ x ∈ xs, x.length ≤ 400) (m : Nat) (hm : m + xs.length ≤ 1000) : Puts ep m xs := by
  induction xs generalizing m with
  | nil => trivial
  | cons x xs ih =>
    rw [List.length_cons] at hm
    refine ⟨?_, ih (fun y hy => hx y (by simp [hy])) (m + 1) (by omega)⟩
    have := hx x (by simp)
    unfold wrong10
    rw [if_pos ⟨he, by omega, by omega⟩, if_neg (by omega)]
/-- Frames one behind the other from sector 3 on. -/
def Kept (d : Dv) (ep : Int) (l : List (List UInt8)) : Prop := Still d 200 (List.replicate 192 0 ++ (framesL ep 0 l ++ List.replicate (64 * (197 - sumN l)) 0))
theorem kept_new (ep : Int) : Kept (Dv.new 200) ep [] := by
  have h := still_new 200
  unfold Kept
  rw [show List.replicate (64 * 200) (0 : UInt8) = List.replicate 192 0 ++ (framesL ep 0 [] ++ List.replicate (64 * (197 - sumN [])) 0) by
    rw [show framesL ep 0 [] = [] from rfl, List.nil_append, show sumN [] = 0 from rfl, List.replicate_append_replicate]] at h
  exact h
theorem area_keep : areaE 200 (3 : Nat) (190 : Nat) = 0 := by decide
theorem kept_app {d : Dv} {ep : Int} {l : List (List UInt8)} (h : Kept d ep l) (b : List UInt8) (hw : wrong10 ep ((l.length : Int) + 1) b.length = 0) (hs : sumN l + nsec b.length ≤ 190) :
    d.appE 3 190 (sumN l : Nat) ep ((l.length : Int) + 1) b = 0 ∧ d.appTo 3 190 (sumN l : Nat) ep ((l.length : Int) + 1) b = ((sumN l + nsec b.length : Nat) : Int) ∧ Kept (d.app 3 190 (sumN l : Nat) ep ((l.length : Int) + 1) b) ep (l ++ [b]) := by
  obtain ⟨a1, a2, a3⟩ := Still.app h 3 190 (sumN l) ep ((l.length : Int) + 1) b area_keep hw hs
  refine ⟨a1, a2, ?_⟩
  unfold Kept
  rw [keeps_step ep (List.replicate 192 0) _ 3 l b (by rw [List.length_replicate]), List.drop_replicate] at a3
  rw [sumN_snoc, show 64 * (197 - (sumN l + nsec b.length)) = 64 * (197 - sumN l) - 64 * nsec b.length by omega]
  exact a3
theorem kept_boot {d : Dv} {ep : Int} {l : List (List UInt8)} (h : Kept d ep l) (keep : List Bool) (torn cut : Int) : Kept (d.off.boot keep torn cut) ep l := Still.again h keep torn cut
theorem kept_load {d : Dv} {ep : Int} {l : List (List UInt8)} (h : Kept d ep l) (hp : Puts ep 0 l) (hs : sumN l ≤ 190) :
    d.loadE 3 190 = 0 ∧ d.loadV 3 190 ep = (l, sumN l) ∧ ∀ ep', ep' ≠ ep → d.loadV 3 190 ep' = ([], 0) := by
  have hfl := framesL_len ep 0 l
  have e : ((List.replicate 192 (0 : UInt8) ++ (framesL ep 0 l ++ List.replicate (64 * (197 - sumN l)) 0)).drop (64 * 3)).take (64 * 190) = framesL ep 0 l ++ List.replicate (64 * (190 - sumN l)) 0 := by
    rw [List.drop_append, List.drop_of_length_le (by rw [List.length_replicate]; omega), List.nil_append, List.length_replicate, List.drop_zero, List.take_append, List.take_of_length_le (by omega), hfl, List.take_replicate]
    congr 2
    omega
  have hl := fun x => Still.load h 3 190 x area_keep
  rw [e] at hl
  rw [show ((190 : Nat) : Int) = 190 from rfl, show ((3 : Nat) : Int) = 3 from rfl] at hl
  refine ⟨(hl ep).1, ?_, fun ep' he => ?_⟩
  · rw [(hl ep).2]
    exact scanV_frames ep l _ hp (by rw [List.length_replicate]; omega) (fun hn => zeros_none _ hn.1)
  · rw [(hl ep').2]
    exact scanV_other ep ep' l _ hp he
/-- Nothing of the epoch 2 anywhere. -/
def Olds (d : Dv) : Prop := ∃ C, Up d 200 C ∧ NoEp 2 C
theorem olds_new : Olds (Dv.new 200) := ⟨_, (still_new 200).up, noep_zeros 2 _⟩
theorem olds_write {d : Dv} (h : Olds d) (p : Nat) (sq : Int) (b : List UInt8) (hw : wrong10 1 sq b.length = 0) (hp : p + nsec b.length ≤ 200) :
    d.writeE p (tx (put10 1 sq b)) = 0 ∧ Olds (d.write p (tx (put10 1 sq b))) := by
  obtain ⟨C, h1, h2⟩ := h
  obtain ⟨p1, p2⟩ := h1.put p (nsec b.length) (tx (put10 1 sq b)) (put_size 1 sq b) (nsec_up b.length).2.2 hp
  rw [tx_list] at p2
  have hc := h1.clen
  exact ⟨p1, _, p2, noep_splice hw (by decide) h2 p (by omega)⟩
/-- Frames of the epoch 2 from sector 0 on, with nothing of it behind. -/
def Over (d : Dv) (l : List (List UInt8)) : Prop := ∃ R, Still d 200 (framesL 2 0 l ++ R) ∧ NoEp 2 R
theorem olds_flush {d : Dv} (h : Olds d) : d.flushE = 0 ∧ Over d.flush [] := by
  obtain ⟨C, h1, h2⟩ := h
  obtain ⟨f1, f2⟩ := h1.flush
  exact ⟨f1, C, f2, h2⟩
theorem area_over : areaE 200 (0 : Nat) (200 : Nat) = 0 := by decide
theorem over_len {d : Dv} {l : List (List UInt8)} {R : List UInt8} (h : Still d 200 (framesL 2 0 l ++ R)) : R.length = 12800 - 64 * sumN l := by
  have := h.clen
  rw [List.length_append, framesL_len] at this
  omega
theorem over_app_still {d : Dv} {l : List (List UInt8)} {R : List UInt8} (h : Still d 200 (framesL 2 0 l ++ R)) (b : List UInt8) (hw : wrong10 2 ((l.length : Int) + 1) b.length = 0) (hs : sumN l + nsec b.length ≤ 200) :
    d.appE 0 200 (sumN l : Nat) 2 ((l.length : Int) + 1) b = 0 ∧ d.appTo 0 200 (sumN l : Nat) 2 ((l.length : Int) + 1) b = ((sumN l + nsec b.length : Nat) : Int) ∧
      Still (d.app 0 200 (sumN l : Nat) 2 ((l.length : Int) + 1) b) 200 (framesL 2 0 (l ++ [b]) ++ R.drop (64 * nsec b.length)) := by
  obtain ⟨a1, a2, a3⟩ := Still.app h 0 200 (sumN l) 2 ((l.length : Int) + 1) b area_over hw hs
  refine ⟨a1, a2, ?_⟩
  have hk := keeps_step 2 [] R 0 l b rfl
  rw [List.nil_append, List.nil_append] at hk
  rw [hk] at a3
  exact a3
theorem over_app {d : Dv} {l : List (List UInt8)} (h : Over d l) (b : List UInt8) (hw : wrong10 2 ((l.length : Int) + 1) b.length = 0) (hs : sumN l + nsec b.length ≤ 200) :
    d.appE 0 200 (sumN l : Nat) 2 ((l.length : Int) + 1) b = 0 ∧ d.appTo 0 200 (sumN l : Nat) 2 ((l.length : Int) + 1) b = ((sumN l + nsec b.length : Nat) : Int) ∧ Over (d.app 0 200 (sumN l : Nat) 2 ((l.length : Int) + 1) b) (l ++ [b]) := by
  obtain ⟨R, h1, h2⟩ := h
  obtain ⟨a1, a2, a3⟩ := over_app_still h1 b hw hs
  exact ⟨a1, a2, _, a3, h2.drop _⟩
/-- What is told, and left, where the power goes while the last one is appended: what was there, what would be there, what is there, and what is loaded. -/
theorem over_falls {d : Dv} {l : List (List UInt8)} (h : Over d l) (b : List UInt8) (hp : Puts 2 0 (l ++ [b])) (hw : wrong10 2 ((l.length : Int) + 1) b.length = 0) (hs : sumN l + nsec b.length ≤ 200) (a : Int) (ha : 1 ≤ a) (keep : List Bool) (torn cut : Int) :
    ∃ was now left : List UInt8, was.length = 12800 ∧ now.length = 12800 ∧ left.length = 12800 ∧ Still d 200 was ∧ Still (d.app 0 200 (sumN l : Nat) 2 ((l.length : Int) + 1) b) 200 now ∧
      Still (((d.arm a).app 0 200 (sumN l : Nat) 2 ((l.length : Int) + 1) b).off.boot keep torn cut) 200 left ∧
      (¬ Mixed left was now (sumN l) → (scanV left 2 = (l, sumN l) ∧ (d.arm a).appE 0 200 (sumN l : Nat) 2 ((l.length : Int) + 1) b ≠ 0) ∨ scanV left 2 = (l ++ [b], sumN (l ++ [b]))) := by
  obtain ⟨R, h1, h2⟩ := h
  obtain ⟨a1, a2, a3⟩ := over_app_still h1 b hw hs
  have hR := over_len h1
  have hfl := framesL_len 2 0 l
  obtain ⟨X, x1, x2, x3⟩ := h1.fall a ha (sumN l) (nsec b.length) (tx (put10 2 ((l.length : Int) + 1) b)) (put_size _ _ _) (nsec_up b.length).2.2 hs keep torn cut
  have hac : (d.arm a).cells.length = 200 := by
    have : (d.arm a).cells = d.cells := by unfold Dv.arm; split <;> rfl
    rw [this, h1.len]
  obtain ⟨g1, g2⟩ := app_good (d := d.arm a) (f := (0 : Nat)) (s := (200 : Nat)) (p := (sumN l : Nat)) (ep := 2) (sq := (l.length : Int) + 1) (b := b) (by rw [hac]; exact area_over) hw (by unfold fits11; exact decide_eq_true (by omega))
  rw [show (((0 : Nat) : Int) + ((sumN l : Nat) : Int)) = ((sumN l : Nat) : Int) by omega] at g1 g2
  have ht : (framesL 2 0 l ++ R).take (64 * sumN l) = framesL 2 0 l := by rw [← hfl, List.take_left]
  have hd : (framesL 2 0 l ++ R).drop (64 * (sumN l + nsec b.length)) = R.drop (64 * nsec b.length) := by
    rw [Nat.mul_add, ← hfl, ← List.drop_drop, List.drop_left]
  rw [ht, hd] at x2
  have hnow : framesL 2 0 (l ++ [b]) ++ R.drop (64 * nsec b.length) = framesL 2 0 l ++ (put10 2 ((l.length : Int) + 1) b ++ R.drop (64 * nsec b.length)) := by
    rw [framesL_snoc, List.append_assoc]
    congr 3
    omega
  refine ⟨framesL 2 0 l ++ R, framesL 2 0 (l ++ [b]) ++ R.drop (64 * nsec b.length), framesL 2 0 l ++ (X ++ R.drop (64 * nsec b.length)), by rw [List.length_append, hfl]; omega, ?_, ?_, h1, a3, ?_, ?_⟩
  · exact a3.clen
  · exact x2.clen
  · rw [show ((200 : Nat) : Int) = 200 from rfl, show ((0 : Nat) : Int) = 0 from rfl] at g2
    rw [g2]; exact x2
  · intro hm
    rw [hnow] at hm
    have hf := falls_scan 2 l b R X hp h2 (by omega) (by omega) x1 hm
    rw [show ((200 : Nat) : Int) = 200 from rfl, show ((0 : Nat) : Int) = 0 from rfl] at g1
    rw [g1]
    by_cases hE : (d.arm a).lastingE ((sumN l : Nat) : Int) (tx (put10 2 ((l.length : Int) + 1) b)) = 0
    · right
      have hX := x3 hE
      rw [tx_list] at hX
      rw [hX, ← hnow]
      exact scanV_frames 2 (l ++ [b]) _ hp (by rw [List.length_drop]; omega) ((h2.drop _).next _)
    · rcases hf with q | q
      · exact Or.inl ⟨q, hE⟩
      · exact Or.inr q
end Go.Proofs.YtdomcgbfpinpoaaDoor
