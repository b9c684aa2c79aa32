/- A device of sectors in plain words: what each call leaves and answers. -/
namespace Go.Proofs.Ytocengdojdeiiaa

/-- A sector: what it has, what is safe of it, whether it is loose. -/
structure Sec where
  now : ByteArray
  safe : ByteArray
  loose : Bool
/-- A device: its sectors, the ops, the armed one (0: none), whether the power is off. -/
structure Dv where
  cells : List Sec
  ops : Int
  armed : Int
  dead : Bool
def zero64 : ByteArray := ⟨Array.replicate 64 0⟩
def sec0 : Sec := ⟨zero64, zero64, false⟩
def Dv.new (n : Nat) : Dv := ⟨List.replicate n sec0, 0, 0, false⟩
/-- Each sector has 64 bytes, and is safe of 64. -/
def Dv.Fit (d : Dv) : Prop := ∀ c ∈ d.cells, c.now.size = 64 ∧ c.safe.size = 64
/-- One op is counted; was it the armed one? -/
def Dv.count (d : Dv) : Dv := ⟨d.cells, d.ops + 1, if 0 < d.armed then d.armed - 1 else d.armed, if d.armed = 1 then true else d.dead⟩
def Dv.hit (d : Dv) : Bool := decide (d.armed = 1)
/-- The i-th sector of a text. -/
def secOf (t : ByteArray) (i : Nat) : ByteArray := t.extract (64 * i) (64 * i + 64)
/-- The sectors behind as many writings from a place on. -/
def wrote (l : List Sec) (p : Nat) (t : ByteArray) (i : Nat) : List Sec := l.mapIdx fun k c => if p ≤ k ∧ k < p + i then ⟨secOf t (k - p), c.safe, true⟩ else c
/-- How many sectors of n are written ahead of, and with, the armed one. -/
def Dv.reach (d : Dv) (n : Nat) : Nat := if 1 ≤ d.armed ∧ d.armed ≤ n then d.armed.toNat else n
def Dv.falls (d : Dv) (n : Nat) : Bool := decide (1 ≤ d.armed ∧ d.armed ≤ n)
/-- The device behind i sectors written. -/
def Dv.wrote (d : Dv) (p : Nat) (t : ByteArray) (i : Nat) : Dv := ⟨Go.Proofs.Ytocengdojdeiiaa.wrote d.cells p t i, d.ops + i, if 0 < d.armed then d.armed - i else d.armed, if 0 < d.armed ∧ d.armed ≤ i then true else d.dead⟩
def Dv.writeE (d : Dv) (p : Int) (t : ByteArray) : Int :=
  if d.dead = true then 20 else if t.size = 0 ∨ t.size % 64 ≠ 0 then 2 else if 0 ≤ p ∧ p + (t.size / 64 : Nat) ≤ d.cells.length then (if d.falls (t.size / 64) = true then 20 else 0) else 21
def Dv.writable (d : Dv) (p : Int) (t : ByteArray) : Bool := decide (d.dead = false ∧ t.size ≠ 0 ∧ t.size % 64 = 0 ∧ 0 ≤ p ∧ p + (t.size / 64 : Nat) ≤ d.cells.length)
def Dv.write (d : Dv) (p : Int) (t : ByteArray) : Dv := if d.writable p t = true then d.wrote p.toNat t (d.reach (t.size / 64)) else d
def cat : List ByteArray → ByteArray
  | [] => ⟨#[]⟩
  | a :: l => a ++ cat l
def Dv.readE (d : Dv) (p n : Int) : Int := if d.dead = true then 20 else if n < 1 then 2 else if 0 ≤ p ∧ p + n ≤ d.cells.length then 0 else 21
def Dv.readT (d : Dv) (p n : Int) : ByteArray := if d.readE p n = 0 then cat (((d.cells.drop p.toNat).take n.toNat).map Sec.now) else ⟨#[]⟩
def Dv.flushE (d : Dv) : Int := if d.dead = true then 20 else if d.hit = true then 20 else 0
def flushed (l : List Sec) : List Sec := l.map fun c => ⟨c.now, c.now, false⟩
def Dv.flush (d : Dv) : Dv := if d.dead = true then d else if d.hit = true then d.count else { d.count with cells := flushed d.cells }
def Dv.loose (d : Dv) : List Int := if d.dead = true then [] else ((List.range d.cells.length).filter fun k => (d.cells.getD k sec0).loose).map fun (k : Nat) => (k : Int)
def Dv.armE (d : Dv) (n : Int) : Int := if d.dead = true then 20 else if n < 1 then 2 else 0
def Dv.arm (d : Dv) (n : Int) : Dv := if d.armE n = 0 then { d with armed := n } else d
def Dv.off (d : Dv) : Dv := { d with dead := true, armed := 0 }
/-- How many bytes of a torn sector are written. -/
def cutAt (c : Int) : Nat := if c < 0 then 0 else if 64 < c then 64 else c.toNat
/-- What is left of the loose sector of a number. -/
def leftOf (c : Sec) (k : Nat) (keep : List Bool) (torn cut : Int) : ByteArray :=
  if (k : Int) = torn then c.now.extract 0 (cutAt cut) ++ c.safe.extract (cutAt cut) c.safe.size else if keep.getD k false = true then c.now else c.safe
/-- How many of the first k sectors are loose. -/
def looseTo (l : List Sec) (k : Nat) : Nat := (l.take k).countP Sec.loose
def booted (l : List Sec) (keep : List Bool) (torn cut : Int) (i : Nat) : List Sec := l.mapIdx fun k c => if k < i ∧ c.loose = true then ⟨leftOf c (looseTo l k) keep torn cut, leftOf c (looseTo l k) keep torn cut, false⟩ else c
def Dv.boot (d : Dv) (keep : List Bool) (torn cut : Int) : Dv := ⟨booted d.cells keep torn cut d.cells.length, d.ops, 0, false⟩

theorem wrote_len (l : List Sec) (p : Nat) (t : ByteArray) (i : Nat) : (wrote l p t i).length = l.length := by simp [wrote]
theorem booted_len (l : List Sec) (keep : List Bool) (torn cut : Int) (i : Nat) : (booted l keep torn cut i).length = l.length := by simp [booted]
theorem wrote_none (l : List Sec) (p : Nat) (t : ByteArray) : wrote l p t 0 = l := by
  refine List.ext_getElem (by simp [wrote]) fun k h1 h2 => ?_
  simp only [wrote, List.getElem_mapIdx]
  rw [if_neg (by omega)]
/-- One sector more. -/
theorem wrote_more (l : List Sec) (p : Nat) (t : ByteArray) (i : Nat) (h : p + i < l.length) : wrote l p t (i + 1) = (wrote l p t i).set (p + i) ⟨secOf t i, (l[p + i]).safe, true⟩ := by
  refine List.ext_getElem (by simp [wrote]) fun k h1 h2 => ?_
  have hk : k < l.length := by rw [wrote_len] at h1; exact h1
  rw [List.getElem_set]
  simp only [wrote, List.getElem_mapIdx]
  by_cases e : p + i = k
  · subst e
    rw [if_pos (by omega), if_pos rfl, show p + i - p = i by omega]
  · rw [if_neg e]
    by_cases g : p ≤ k ∧ k < p + i
    · rw [if_pos g, if_pos (by omega)]
    · rw [if_neg g, if_neg (by omega)]
theorem wrote_at (l : List Sec) (p : Nat) (t : ByteArray) (i k : Nat) (h : k < l.length) (hk : p + i ≤ k) : (wrote l p t i)[k]'(by rw [wrote_len]; exact h) = l[k] := by
  simp only [wrote, List.getElem_mapIdx]
  rw [if_neg (by omega)]
theorem booted_none (l : List Sec) (keep : List Bool) (torn cut : Int) : booted l keep torn cut 0 = l := by
  refine List.ext_getElem (by simp [booted]) fun k h1 h2 => ?_
  simp only [booted, List.getElem_mapIdx]
  rw [if_neg (by omega)]
theorem booted_at (l : List Sec) (keep : List Bool) (torn cut : Int) (i k : Nat) (h : k < l.length) (hk : i ≤ k) : (booted l keep torn cut i)[k]'(by rw [booted_len]; exact h) = l[k] := by
  simp only [booted, List.getElem_mapIdx]
  rw [if_neg (by omega)]
theorem booted_stay (l : List Sec) (keep : List Bool) (torn cut : Int) (i : Nat) (h : i < l.length) (hl : l[i].loose = false) : booted l keep torn cut (i + 1) = booted l keep torn cut i := by
  refine List.ext_getElem (by simp [booted]) fun k h1 h2 => ?_
  simp only [booted, List.getElem_mapIdx]
  have hkl : k < l.length := by rw [booted_len] at h1; exact h1
  by_cases e : k = i
  · subst e; rw [if_neg (by rw [hl]; simp), if_neg (by omega)]
  · by_cases g : k < i ∧ l[k].loose = true
    · rw [if_pos g, if_pos ⟨by omega, g.2⟩]
    · rw [if_neg g, if_neg (by rintro ⟨h3, h4⟩; exact g ⟨by omega, h4⟩)]
theorem booted_more (l : List Sec) (keep : List Bool) (torn cut : Int) (i : Nat) (h : i < l.length) (hl : l[i].loose = true) :
    booted l keep torn cut (i + 1) = (booted l keep torn cut i).set i ⟨leftOf l[i] (looseTo l i) keep torn cut, leftOf l[i] (looseTo l i) keep torn cut, false⟩ := by
  refine List.ext_getElem (by simp [booted]) fun k h1 h2 => ?_
  rw [List.getElem_set]
  simp only [booted, List.getElem_mapIdx]
  have hkl : k < l.length := by rw [booted_len] at h1; exact h1
  by_cases e : i = k
  · subst e; rw [if_pos ⟨by omega, hl⟩, if_pos rfl]
  · rw [if_neg e]
    by_cases g : k < i ∧ l[k].loose = true
    · rw [if_pos g, if_pos ⟨by omega, g.2⟩]
    · rw [if_neg g, if_neg (by rintro ⟨h3, h4⟩; exact g ⟨by omega, h4⟩)]
theorem loose_more (l : List Sec) (i : Nat) (h : i < l.length) : looseTo l (i + 1) = looseTo l i + if l[i].loose = true then 1 else 0 := by
  unfold looseTo
  rw [List.take_succ_eq_append_getElem h, List.countP_append]
  simp [List.countP_cons]
theorem sec_size (t : ByteArray) (i n : Nat) (h : t.size = 64 * n) (hi : i < n) : (secOf t i).size = 64 := by
  unfold secOf
  rw [ByteArray.size_extract]
  omega
theorem cut_le (c : Int) : cutAt c ≤ 64 := by unfold cutAt; split; omega; split <;> omega
theorem left_size (c : Sec) (k : Nat) (keep : List Bool) (torn cut : Int) (h : c.now.size = 64 ∧ c.safe.size = 64) : (leftOf c k keep torn cut).size = 64 := by
  have := cut_le cut
  unfold leftOf
  split
  · rw [ByteArray.size_append, ByteArray.size_extract, ByteArray.size_extract, h.1, h.2]; omega
  · split
    · exact h.1
    · exact h.2
theorem zero_size : zero64.size = 64 := rfl
theorem Dv.Fit.new (n : Nat) : (Dv.new n).Fit := by
  intro c hc
  have := (List.mem_replicate.1 hc).2
  subst this
  exact ⟨rfl, rfl⟩
theorem fit_wrote {l : List Sec} (h : ∀ c ∈ l, c.now.size = 64 ∧ c.safe.size = 64) (p : Nat) (t : ByteArray) (i n : Nat) (ht : t.size = 64 * n) (hi : i ≤ n) : ∀ c ∈ wrote l p t i, c.now.size = 64 ∧ c.safe.size = 64 := by
  intro c hc
  obtain ⟨k, hk, rfl⟩ := List.getElem_of_mem hc
  have hk' : k < l.length := by rw [wrote_len] at hk; exact hk
  have h1 := h l[k] (List.getElem_mem hk')
  simp only [wrote, List.getElem_mapIdx]
  split
  · exact ⟨sec_size t (k - p) n ht (by omega), h1.2⟩
  · exact h1
theorem fit_booted {l : List Sec} (h : ∀ c ∈ l, c.now.size = 64 ∧ c.safe.size = 64) (keep : List Bool) (torn cut : Int) (i : Nat) : ∀ c ∈ booted l keep torn cut i, c.now.size = 64 ∧ c.safe.size = 64 := by
  intro c hc
  obtain ⟨k, hk, rfl⟩ := List.getElem_of_mem hc
  have hk' : k < l.length := by rw [booted_len] at hk; exact hk
  have h1 := h l[k] (List.getElem_mem hk')
  simp only [booted, List.getElem_mapIdx]
  split
  · exact ⟨left_size _ _ _ _ _ h1, left_size _ _ _ _ _ h1⟩
  · exact h1
theorem fit_flushed {l : List Sec} (h : ∀ c ∈ l, c.now.size = 64 ∧ c.safe.size = 64) : ∀ c ∈ flushed l, c.now.size = 64 ∧ c.safe.size = 64 := by
  intro c hc
  obtain ⟨x, hx, rfl⟩ := List.mem_map.1 hc
  exact ⟨(h x hx).1, (h x hx).1⟩
theorem writable_iff (d : Dv) (p : Int) (t : ByteArray) : d.writable p t = true ↔ d.dead = false ∧ t.size ≠ 0 ∧ t.size % 64 = 0 ∧ 0 ≤ p ∧ p + (t.size / 64 : Nat) ≤ d.cells.length := by unfold Dv.writable; exact decide_eq_true_iff
theorem reach_le (d : Dv) (n : Nat) : d.reach n ≤ n := by unfold Dv.reach; split <;> omega
theorem Dv.Fit.write {d : Dv} (h : d.Fit) (p : Int) (t : ByteArray) : (d.write p t).Fit := by
  unfold Dv.write
  split
  · rename_i hw
    obtain ⟨_, h1, h2, _, _⟩ := (writable_iff d p t).1 hw
    exact fit_wrote h _ t _ (t.size / 64) (by omega) (reach_le d _)
  · exact h
theorem Dv.Fit.flush {d : Dv} (h : d.Fit) : d.flush.Fit := by
  unfold Dv.flush
  split
  · exact h
  · split
    · exact h
    · exact fit_flushed h
theorem Dv.Fit.boot {d : Dv} (h : d.Fit) (keep : List Bool) (torn cut : Int) : (d.boot keep torn cut).Fit := fit_booted h keep torn cut _
theorem Dv.Fit.arm {d : Dv} (h : d.Fit) (n : Int) : (d.arm n).Fit := by unfold Dv.arm; split <;> exact h
theorem Dv.Fit.off {d : Dv} (h : d.Fit) : d.off.Fit := h
end Go.Proofs.Ytocengdojdeiiaa
