/- What is safe of the loose sectors, as it lies in the program's map: the map's keys are the loose sectors, each with its safe bytes. -/
import Derived.Test.YtcbmecpeockdeaaGreatDoorMByte
import Derived.Test.YtcbmecpeockdeaaGreatDoorMCells
import Derived.Test.YtcbmecpeockdeaaGreatDoorMInts
import Derived.Maps.OwnSet
import Derived.Maps.Ext
import Derived.Lib.SlKeysI
import Derived.Deep.DeepCutAuto
import Derived.Lib.UnsafeStr
import Derived.Deep.OwnRows
import Derived.Laws.CopyRow
import Derived.Laws.CopyOwn
import Derived.Lib.BufferWrite
namespace Go.Proofs.YtcbmecpeockdeaaGreatDoor
open Go.RowKit Go.Maps

/-- An element of the map, as it is. -/
def tokR : Value → Option (DataW Value × List MemPlace) := fun v => some (.held v, [])
def bytesV (t : ByteArray) : List Value := t.data.toList.map fun c => .int .u8 c.toNat
def arrV (t : ByteArray) : Value := .agg ⟨bytesV t⟩
/-- The map D holds just what is safe of the loose ones among the sectors l. -/
structure Keeps (D : DataW Value) (l : List Sec) : Prop where
  has : ∀ kl, Maps.has D kl = true ↔ ∃ k : Nat, k < l.length ∧ (l.getD k sec0).loose = true ∧ kl = .int .i64 k
  val : ∀ k, k < l.length → (l.getD k sec0).loose = true → ∀ z, D.atKey (.int .i64 (k : Nat)) z = .held (arrV (l.getD k sec0).safe)
/-- What is not loose is safe. -/
def Calm (l : List Sec) : Prop := ∀ c ∈ l, c.loose = false → c.now = c.safe
theorem getD_set {l : List Sec} {k j : Nat} {c : Sec} (hk : k < l.length) : (l.set k c).getD j sec0 = if j = k then c else l.getD j sec0 := by
  rw [List.getD_eq_getElem?_getD, List.getD_eq_getElem?_getD, List.getElem?_set]
  by_cases e : k = j
  · subst e; simp [hk]
  · rw [if_neg e, if_neg (fun h => e h.symm)]
theorem key_inj {a b : Nat} (h : Lit.int .i64 (a : Int) = Lit.int .i64 (b : Int)) : a = b := by
  injection h with _ h; omega
theorem isKey (k : Nat) : WideAt.IsKeyLit (.int .i64 (k : Int)) := trivial
theorem Keeps.empty {l : List Sec} (h : ∀ c ∈ l, c.loose = false) : Keeps (.map []) l := by
  have h' : ∀ k, k < l.length → (l.getD k sec0).loose = false := fun k hk => by
    rw [List.getD_eq_getElem?_getD, List.getElem?_eq_getElem hk]; exact h _ (List.getElem_mem hk)
  refine ⟨fun kl => ⟨fun hh => by simp [Maps.has] at hh, ?_⟩, fun k hk hl => by rw [h' k hk] at hl; cases hl⟩
  rintro ⟨k, hk, hl, _⟩
  rw [h' k hk] at hl; cases hl
/-- A sector becomes loose: what was safe is laid into the map. -/
theorem Keeps.put {D : DataW Value} {l : List Sec} (h : Keeps D l) (hm : IsMap D) {k : Nat} (hk : k < l.length) (c : Sec) (hc : c.loose = true) : Keeps (D.put (.int .i64 k) (.held (arrV c.safe))) (l.set k c) := by
  refine ⟨fun kl => ?_, fun j hj hl z => ?_⟩
  · by_cases e : kl = .int .i64 k
    · subst e
      rw [has_put_same hm (isKey k)]
      exact ⟨fun _ => ⟨k, by simpa using hk, by rw [getD_set hk, if_pos rfl]; exact hc, rfl⟩, fun _ => rfl⟩
    · rw [has_put_other e, h.has kl]
      refine ⟨?_, ?_⟩
      · rintro ⟨j, hj, hl, rfl⟩
        exact ⟨j, by simpa using hj, by rw [getD_set hk, if_neg (fun x => e (by rw [x]))]; exact hl, rfl⟩
      · rintro ⟨j, hj, hl, rfl⟩
        rw [getD_set hk, if_neg (fun x => e (by rw [x]))] at hl
        exact ⟨j, by simpa using hj, hl, rfl⟩
  · rw [getD_set hk] at hl ⊢
    by_cases e : j = k
    · subst e
      rw [if_pos rfl, atKey_put_same hm (isKey j)]
    · rw [if_neg e] at hl ⊢
      rw [atKey_put_other (fun x => e (key_inj x))]
      exact h.val j (by simpa using hj) hl z
/-- A loose sector is written again. -/
theorem Keeps.again {D : DataW Value} {l : List Sec} (h : Keeps D l) {k : Nat} (hk : k < l.length) (hl : (l.getD k sec0).loose = true) (c : Sec) (hc : c.loose = true) (hs : c.safe = (l.getD k sec0).safe) : Keeps D (l.set k c) := by
  refine ⟨fun kl => ?_, fun j hj hj' z => ?_⟩
  · rw [h.has kl]
    refine ⟨?_, ?_⟩
    · rintro ⟨j, hj, hjl, rfl⟩
      exact ⟨j, by simpa using hj, by rw [getD_set hk]; split; exact hc; exact hjl, rfl⟩
    · rintro ⟨j, hj, hjl, rfl⟩
      refine ⟨j, by simpa using hj, ?_, rfl⟩
      rw [getD_set hk] at hjl
      by_cases e : j = k
      · rw [e]; exact hl
      · rw [if_neg e] at hjl; exact hjl
  · rw [getD_set hk] at hj' ⊢
    by_cases e : j = k
    · subst e
      rw [if_pos rfl, hs]; exact h.val j hk hl z
    · rw [if_neg e] at hj' ⊢
      exact h.val j (by simpa using hj) hj' z
/-- A sector is loose no more. -/
theorem Keeps.del {D : DataW Value} {l : List Sec} (h : Keeps D l) {k : Nat} (hk : k < l.length) (c : Sec) (hc : c.loose = false) : Keeps (D.del (.int .i64 k)) (l.set k c) := by
  refine ⟨fun kl => ?_, fun j hj hj' z => ?_⟩
  · by_cases e : kl = .int .i64 k
    · subst e
      rw [has_del_same]
      refine Iff.intro (fun x => absurd x (by decide)) ?_
      rintro ⟨j, hj, hjl, he⟩
      have := key_inj he
      subst this
      rw [getD_set hk, if_pos rfl, hc] at hjl; cases hjl
    · rw [has_del_other e, h.has kl]
      refine ⟨?_, ?_⟩
      · rintro ⟨j, hj, hl, rfl⟩
        exact ⟨j, by simpa using hj, by rw [getD_set hk, if_neg (fun x => e (by rw [x]))]; exact hl, rfl⟩
      · rintro ⟨j, hj, hl, rfl⟩
        rw [getD_set hk, if_neg (fun x => e (by rw [x]))] at hl
        exact ⟨j, by simpa using hj, hl, rfl⟩
  · rw [getD_set hk] at hj' ⊢
    by_cases e : j = k
    · rw [if_pos e, hc] at hj'; cases hj'
    · rw [if_neg e] at hj' ⊢
      rw [atKey_del_other (fun x => e (key_inj x))]
      exact h.val j (by simpa using hj) hj' z
/-- The numbers of the loose sectors, rising. -/
def looseN (l : List Sec) : List Nat := (List.range l.length).filter fun k => (l.getD k sec0).loose
def looseI (l : List Sec) : List Int := (looseN l).map fun (k : Nat) => (k : Int)
theorem looseI_mem (l : List Sec) (x : Int) : x ∈ looseI l ↔ ∃ k : Nat, k < l.length ∧ (l.getD k sec0).loose = true ∧ x = k := by
  unfold looseI looseN
  simp only [List.mem_map, List.mem_filter, List.mem_range]
  constructor
  · rintro ⟨k, ⟨h1, h2⟩, rfl⟩; exact ⟨k, h1, h2, rfl⟩
  · rintro ⟨k, h1, h2, rfl⟩; exact ⟨k, ⟨h1, h2⟩, rfl⟩
theorem looseN_rises (l : List Sec) : (looseN l).Pairwise (· < ·) := List.Pairwise.filter _ List.pairwise_lt_range
theorem looseI_rises (l : List Sec) : (looseI l).Pairwise (· < ·) := by
  unfold looseI
  rw [List.pairwise_map]
  exact (looseN_rises l).imp (fun h => by omega)
theorem looseI_len (l : List Sec) : (looseI l).length ≤ l.length := by
  unfold looseI looseN
  rw [List.length_map]
  have := List.length_filter_le (fun k => (l.getD k sec0).loose) (List.range l.length)
  rwa [List.length_range] at this
theorem Keeps.perm {D : DataW Value} {l : List Sec} (h : Keeps D l) (ht : Canon D) : (looseI l).Perm (intKeys D) := by
  obtain ⟨es, rfl, hp, hk⟩ := ht
  refine perm_intKeys (apart_of_rising hp) (fun p hp' => ?_) ((looseI_rises l).imp (fun h e => by omega)) (fun x => ?_)
  · obtain ⟨k, _, _, e⟩ := (h.has p.1).1 (List.any_eq_true.2 ⟨p, hp', WideAt.sameKey_self (hk p hp')⟩)
    exact ⟨k, e⟩
  · rw [looseI_mem, h.has]
    constructor
    · rintro ⟨k, h1, h2, rfl⟩; exact ⟨k, h1, h2, rfl⟩
    · rintro ⟨k, h1, h2, h3⟩; exact ⟨k, h1, h2, by injection h3⟩
theorem sorted_loose (l : List Sec) {D : DataW Value} (h : Keeps D l) (ht : Canon D) {ss : List Int} (hs : ss.Perm (intKeys D)) : ss.mergeSort (fun x y => decide (x ≤ y)) = looseI l := by
  have hp : ss.Perm (looseI l) := hs.trans (h.perm ht).symm
  have h1 : (ss.mergeSort (fun x y => decide (x ≤ y))).Pairwise (fun x y : Int => x ≤ y) := by
    have := List.pairwise_mergeSort (le := fun x y : Int => decide (x ≤ y)) (by intro a b c; simp; omega) (by intro a b; simp; omega) ss
    exact this.imp (fun h => by simpa using h)
  refine List.Perm.eq_of_pairwise (le := fun x y : Int => x ≤ y) ?_ h1 ((looseI_rises l).imp (fun h => by omega)) ((List.mergeSort_perm ss _).trans hp)
  intro a b _ _ h1 h2
  omega
theorem keeps_size (l : List Sec) {D : DataW Value} (h : Keeps D l) (ht : Canon D) : Maps.size D = (looseI l).length := by
  have := (h.perm ht).length_eq
  obtain ⟨es, rfl, hp, _⟩ := ht
  rw [this]
  simp [Maps.size, intKeys]
/-- A map counts no more than it has. -/
theorem own_tight {w : World} {m n : Nat} {D : DataW Value} {k : TypeId} (h : w.ownsMap Tryz.prog k tokR m n D) : w.ownsMap Tryz.prog k tokR m (Maps.size D) D := by
  obtain ⟨es, clock, hb, F, _, rfl⟩ := h
  refine ⟨es, clock, hb, F, ?_, rfl⟩
  simp [Maps.size, length_sorted]
end Go.Proofs.YtcbmecpeockdeaaGreatDoor
namespace Go.Proofs.YtcbmecpeockdeaaGreatDoor
open Go.RowKit

def byteRow (l : List UInt8) : Array Value := (Lib.byteCells l).toArray
theorem byteRow_at (l : List UInt8) (j : Nat) (h : j < l.length) : (byteRow l)[j]? = some (.int .u8 (l[j]).toNat) := by
  unfold byteRow
  rw [List.getElem?_toArray]
  simp [Lib.byteCells, h]
theorem byteRow_set (l : List UInt8) (k : Nat) (c : UInt8) : (byteRow l).setIfInBounds k (.int .u8 c.toNat) = byteRow (l.set k c) := by
  unfold byteRow
  rw [List.setIfInBounds_toArray]
  simp [Lib.byteCells, List.map_set]
theorem byteRow_made (n : Nat) : madeCells #[Value.int .u8 0] n = byteRow (List.replicate n 0) := by
  refine Array.ext' ?_
  rw [toList_madeCells_one]
  unfold byteRow
  simp [Lib.byteCells]
theorem push_fold (ns : List UInt8) : ∀ (r : ByteArray), (ns.map fun c => (c.toNat : Int)).foldl (fun r n => r.push (UInt8.ofNat n.toNat)) r = r ++ ⟨ns.toArray⟩ := by
  induction ns with
  | nil => intro r; exact text_eq (by simp)
  | cons c ns ih =>
    intro r
    rw [List.map_cons, List.foldl_cons, ih]
    exact text_eq (by simp)
/-- A row of bytes, as a text. -/
theorem byteRow_text {w : World} {g : Nat} {l : List UInt8} {fr : Nat × Nat} (h : w.heap[g]? = some (.cells (byteRow l) 5 fr)) (c : Nat) : (convert 51 9 (.slice (some ⟨g, 0, none⟩) l.length c)).run Tryz.prog w = .ok (.string ⟨l.toArray⟩) w := by
  rw [run_convert_bytes_string (P := Tryz.prog) _ 51 9 5 _ _ _ Tryz.underlying51 Tryz.underlying5 Tryz.underlying9]
  have hl : (loadCells ⟨g, 0, none⟩ l.length).run Tryz.prog w = .ok ((l.map fun c => (c.toNat : Int)).map (Value.int .u8)).toArray w := by
    have := run_loadCells_list (P := Tryz.prog) w ⟨g, 0, none⟩ ((l.map fun c => (c.toNat : Int)).map (Value.int .u8)) (fun j v hj => by
      have hj' : j < l.length := by
        have := (List.getElem?_eq_some_iff.1 hj).1
        simpa using this
      rw [List.map_map, List.getElem?_map, List.getElem?_eq_getElem hj'] at hj
      have hc := cell_of (j := j) h (byteRow_at l j hj')
      rw [← Option.some.inj hj]
      rcases Nat.eq_zero_or_pos j with e | e
      · subst e; simpa [Addr.add] using hc
      · simpa [Addr.add, Nat.ne_of_gt e] using hc)
    simpa using this
  refine (run_bytesToString (P := Tryz.prog) _ _ l.length c (l.map fun c => (c.toNat : Int)) hl).trans ?_
  rw [push_fold]
  congr 2
theorem infoU8 : (Tryz.prog.info? 5).map (fun i => (i.zero, i.size, i.bytes)) = some (some (.int .u8 0), 1, 1) := by kernel_rfl
end Go.Proofs.YtcbmecpeockdeaaGreatDoor
namespace Go.Proofs.YtcbmecpeockdeaaGreatDoor
open Go.RowKit Go.Maps

/-- Nothing that was there has changed but what lies in three blocks. -/
structure But (b g m : Nat) (w w' : World) : Prop where
  os : w'.os = w.os
  tape : w'.tape = w.tape
  output : w'.output = w.output
  size : w.heap.size ≤ w'.heap.size
  block : ∀ k, k < w.heap.size → k ≠ b → k ≠ g → k ≠ m → w'.heap[k]? = w.heap[k]?
theorem But.refl (b g m : Nat) (w : World) : But b g m w w := ⟨rfl, rfl, rfl, Nat.le_refl _, fun _ _ _ _ _ => rfl⟩
theorem But.trans {b g m : Nat} {x y z : World} (h : But b g m x y) (k : But b g m y z) : But b g m x z :=
  ⟨k.os.trans h.os, k.tape.trans h.tape, k.output.trans h.output, Nat.le_trans h.size k.size, fun i hi h1 h2 h3 => (k.block i (Nat.lt_of_lt_of_le hi h.size) h1 h2 h3).trans (h.block i hi h1 h2 h3)⟩
theorem But.below {b g m B : Nat} {w w' : World} (h : But b g m w w') (h1 : B ≤ b) (h2 : B ≤ g) (h3 : B ≤ m) (hB : B ≤ w.heap.size) : Below B w w' :=
  ⟨h.os, h.tape, h.output, h.size, fun k hk => h.block k (by omega) (by omega) (by omega) (by omega)⟩
theorem But.of_below {b g m : Nat} {w w' : World} (h : Below w.heap.size w w') : But b g m w w' := ⟨h.os, h.tape, h.output, h.size, fun k hk _ _ _ => h.block k hk⟩
theorem But.step {b g m : Nat} {x w w' : World} (k : But b g m x w) (h : Below w.heap.size w w') : But b g m x w' := k.trans (But.of_below h)
theorem But.drew {b g m : Nat} {x w : World} (k : But b g m x w) : But b g m x w.drew := k.step (Below.refl _ w).drew
theorem But.alloc {b g m : Nat} {x w : World} (k : But b g m x w) (o : Obj) : But b g m x (w.alloc o) := k.step ((Below.refl _ w).alloc (Nat.le_refl _) o)
theorem But.grown {b g m : Nat} {x w w' : World} {r : Nat} (k : But b g m x w) (h : w.grownBy w' (some r)) (hr : r = b ∨ r = g ∨ r = m ∨ x.heap.size ≤ r) : But b g m x w' :=
  ⟨h.os.trans k.os, h.tape.trans k.tape, h.output.trans k.output, Nat.le_trans k.size h.size, fun i hi h1 h2 h3 => (h.block i (Nat.lt_of_lt_of_le hi k.size) (fun e => by injection e; omega)).trans (k.block i hi h1 h2 h3)⟩
theorem But.cell {b g m : Nat} {x w : World} (k : But b g m x w) {r j : Nat} (v : Value) (hr : r = b ∨ r = g ∨ r = m ∨ x.heap.size ≤ r) : But b g m x (w.setCell ⟨r, j, none⟩ v) :=
  ⟨k.os, k.tape, k.output, by simpa [World.setCell] using k.size, fun i hi h1 h2 h3 => (Below.heap_setCell _ _ _ _ (show i ≠ r by omega)).trans (k.block i hi h1 h2 h3)⟩
theorem But.row {b g m : Nat} {x w : World} (k : But b g m x w) {r : Nat} (c : Array Value) (hr : r = b ∨ r = g ∨ r = m ∨ x.heap.size ≤ r) : But b g m x (w.setRow r c) :=
  ⟨k.os, k.tape, k.output, by simpa using k.size, fun i hi h1 h2 h3 => (setRow_other w r i c (show i ≠ r by omega)).trans (k.block i hi h1 h2 h3)⟩
/-- What lies elsewhere stays. -/
theorem But.obj {b g m : Nat} {w w' : World} (h : But b g m w w') {k : Nat} {o : Obj} (ho : w.heap[k]? = some o) (h1 : k ≠ b) (h2 : k ≠ g) (h3 : k ≠ m) : w'.heap[k]? = some o := (h.block k (obj_lt ho) h1 h2 h3).trans ho

def nowCells (l : List Sec) : List Value := l.flatMap fun c => bytesV c.now
def FitL (l : List Sec) : Prop := ∀ c ∈ l, c.now.size = 64 ∧ c.safe.size = 64
theorem bytesV_len (t : ByteArray) : (bytesV t).length = t.size := by unfold bytesV; rw [List.length_map]; simp
theorem now_len {l : List Sec} (h : FitL l) : (nowCells l).length = l.length * 64 := by
  induction l with
  | nil => rfl
  | cons c l ih =>
    show (bytesV c.now ++ nowCells l).length = _
    rw [List.length_append, ih (fun x hx => h x (List.mem_cons_of_mem _ hx)), bytesV_len, (h c (List.mem_cons_self ..)).1, List.length_cons]; omega
theorem now_more (a b : List Sec) : nowCells (a ++ b) = nowCells a ++ nowCells b := by unfold nowCells; rw [List.flatMap_append]
theorem fit_take {l : List Sec} (h : FitL l) (k : Nat) : FitL (l.take k) := fun c hc => h c (List.mem_of_mem_take hc)
theorem fit_drop {l : List Sec} (h : FitL l) (k : Nat) : FitL (l.drop k) := fun c hc => h c (List.mem_of_mem_drop hc)
theorem fit_set {l : List Sec} (h : FitL l) (k : Nat) (c : Sec) (hc : c.now.size = 64 ∧ c.safe.size = 64) : FitL (l.set k c) := fun x hx => by
  rcases List.mem_or_eq_of_mem_set hx with e | e
  · exact h x e
  · rw [e]; exact hc
theorem fit_at {l : List Sec} (h : FitL l) {k : Nat} (hk : k < l.length) : (l.getD k sec0).now.size = 64 ∧ (l.getD k sec0).safe.size = 64 := by
  rw [List.getD_eq_getElem?_getD, List.getElem?_eq_getElem hk]; exact h _ (List.getElem_mem hk)
theorem now_split {l : List Sec} (k : Nat) (hk : k < l.length) : nowCells l = nowCells (l.take k) ++ (bytesV (l.getD k sec0).now ++ nowCells (l.drop (k + 1))) := by
  have e : l = l.take k ++ (l[k] :: l.drop (k + 1)) := by rw [List.getElem_cons_drop, List.take_append_drop]
  conv => lhs; rw [e]
  rw [now_more, List.getD_eq_getElem?_getD, List.getElem?_eq_getElem hk]; rfl
theorem now_at {l : List Sec} (h : FitL l) {k j : Nat} (hk : k < l.length) (hj : j < 64) : (nowCells l)[k * 64 + j]? = (bytesV (l.getD k sec0).now)[j]? := by
  have hl : (nowCells (l.take k)).length = k * 64 := by rw [now_len (fit_take h k), List.length_take, Nat.min_eq_left (by omega)]
  rw [now_split k hk, List.getElem?_append_right (by omega), hl, Nat.add_sub_cancel_left, List.getElem?_append_left (by rw [bytesV_len, (fit_at h hk).1]; exact hj)]
/-- A piece of a sector written anew. -/
theorem now_splice {l : List Sec} (h : FitL l) {k j : Nat} (hk : k < l.length) (hj : j ≤ 64) (t : ByteArray) (ht : t.size = 64) (c : Sec) (hc : bytesV c.now = (bytesV (l.getD k sec0).now).take j ++ (bytesV t).drop j) :
    splice (nowCells l) (k * 64 + j) ((bytesV t).drop j) = nowCells (l.set k c) := by
  have hl : (nowCells (l.take k)).length = k * 64 := by rw [now_len (fit_take h k), List.length_take, Nat.min_eq_left (by omega)]
  have hb : (bytesV (l.getD k sec0).now).length = 64 := by rw [bytesV_len, (fit_at h hk).1]
  have hd : ((bytesV t).drop j).length = 64 - j := by rw [List.length_drop, bytesV_len, ht]
  have hs : nowCells (l.set k c) = nowCells (l.take k) ++ (bytesV c.now ++ nowCells (l.drop (k + 1))) := by
    have e : l.set k c = l.take k ++ (c :: l.drop (k + 1)) := by rw [List.set_eq_take_append_cons_drop, if_pos hk]
    rw [e, now_more]; rfl
  rw [hs, hc]
  unfold splice
  rw [hd]
  conv => lhs; rw [now_split k hk]
  have e0 : k * 64 + j + (64 - j) = k * 64 + 64 := by omega
  have e1 : (nowCells (l.take k) ++ (bytesV (l.getD k sec0).now ++ nowCells (l.drop (k + 1)))).take (k * 64 + j) = nowCells (l.take k) ++ (bytesV (l.getD k sec0).now).take j := by
    rw [List.take_append, hl, List.take_of_length_le (by omega), Nat.add_sub_cancel_left, List.take_append_of_le_length (by omega)]
  have e2 : (nowCells (l.take k) ++ (bytesV (l.getD k sec0).now ++ nowCells (l.drop (k + 1)))).drop (k * 64 + 64) = nowCells (l.drop (k + 1)) := by
    rw [← List.append_assoc]
    exact List.drop_left' (by rw [List.length_append, hl, hb])
  rw [e0, e1, e2]
  simp only [List.append_assoc]
theorem byte_one (t : ByteArray) : ∀ v ∈ bytesV t, v.oneCell' = true := by
  intro v hv
  obtain ⟨c, _, rfl⟩ := List.mem_map.1 hv
  rfl

theorem infoArr : (Tryz.prog.info? 102).map (fun i => (i.zero, i.size, i.bytes)) = some (some (arrV zero64), 64, 64) := by kernel_rfl
/-- The row of sectors: what each has, one behind the other. -/
def PRow (w : World) (g cap : Nat) (l : List Sec) : Prop :=
  ∃ cur : List Value, w.heap[g]? = some (.cells cur.toArray 102 (0, 0)) ∧ l.length ≤ cap ∧ cap ≤ maxLen ∧ cur.length = cap * 64 ∧ cur.take (l.length * 64) = nowCells l
theorem PRow.lt {w : World} {g cap : Nat} {l : List Sec} (h : PRow w g cap l) : g < w.heap.size := by obtain ⟨_, h1, _⟩ := h; exact obj_lt h1
theorem PRow.of_own {w : World} {B g n cap : Nat} {l : List Sec} (hn : n = l.length) (h : w.ownsRow B 102 64 (.slice (some ⟨g, 0, none⟩) n cap) n (nowCells l)) : PRow w g cap l ∧ B ≤ g := by
  rcases h.2 with ⟨h', _⟩ | ⟨g', cap', cur, h1, h2, h3, h4, h5, h6, h7⟩
  · simp at h'
  · simp only [Value.slice.injEq, Option.some.injEq, Addr.mk.injEq, and_true, true_and] at h1
    obtain ⟨rfl, rfl⟩ := h1
    subst hn
    exact ⟨⟨cur.toList, by simpa using h3, h4, h5, by simpa using h6, h7⟩, h2⟩
theorem PRow.cell {w : World} {g cap : Nat} {l : List Sec} (h : PRow w g cap l) (hf : FitL l) {k j : Nat} (hk : k < l.length) (hj : j < 64) : w.cell? ⟨g, k * 64 + j, none⟩ = (bytesV (l.getD k sec0).now)[j]? := by
  obtain ⟨cur, h1, h2, h3, h4, h5⟩ := h
  rw [cell_of_row w g _ _ _ _ h1, List.getElem?_toArray, ← now_at hf hk hj, ← h5, List.getElem?_take, if_pos (by omega)]
theorem PRow.frozen {w : World} {g cap : Nat} {l : List Sec} (h : PRow w g cap l) (j : Nat) : w.frozen? ⟨g, j, none⟩ = false := by
  obtain ⟨cur, h1, _⟩ := h
  exact frozen_of_row w g j _ _ h1
theorem PRow.kept {w w' : World} {g cap : Nat} {l : List Sec} (h : PRow w g cap l) (hb : w'.heap[g]? = w.heap[g]?) : PRow w' g cap l := by
  obtain ⟨cur, h1, h2⟩ := h
  exact ⟨cur, by rw [hb]; exact h1, h2⟩
/-- A piece of a sector written anew, in memory. -/
theorem PRow.spliced {w w' : World} {g cap : Nat} {l : List Sec} (h : PRow w g cap l) (hf : FitL l) {k j : Nat} (hk : k < l.length) (hj : j ≤ 64) (t : ByteArray) (ht : t.size = 64) (c : Sec) (hc : bytesV c.now = (bytesV (l.getD k sec0).now).take j ++ (bytesV t).drop j)
    (cur : List Value) (hcur : w.heap[g]? = some (.cells cur.toArray 102 (0, 0))) (hw : w'.heap[g]? = some (.cells (splice cur (k * 64 + j) ((bytesV t).drop j)).toArray 102 (0, 0))) : PRow w' g cap (l.set k c) := by
  obtain ⟨cur', h1, h2, h3, h4, h5⟩ := h
  rw [h1] at hcur
  have e : cur' = cur := by
    injection hcur with e; injection e with e _ _
    have := congrArg Array.toList e
    simpa using this
  subst e
  have hd : ((bytesV t).drop j).length = 64 - j := by rw [List.length_drop, bytesV_len, ht]
  refine ⟨_, hw, by simpa using h2, h3, ?_, ?_⟩
  · rw [length_splice _ _ _ (by rw [hd]; omega), h4]
  · rw [List.length_set, ← now_splice hf hk hj t ht c hc, ← h5]
    unfold splice
    rw [List.take_append, List.take_append, List.take_take, List.take_take, List.length_take, hd]
    rw [Nat.min_eq_left (show k * 64 + j ≤ cur'.length by omega)]
    rw [Nat.min_eq_right (show k * 64 + j ≤ l.length * 64 by omega), Nat.min_eq_left (show k * 64 + j ≤ l.length * 64 by omega)]
    congr 1
    rw [List.take_of_length_le (show ((bytesV t).drop j).length ≤ _ by rw [hd]; omega)]
    congr 1
    rw [List.drop_take]
    congr 1
    omega
/-- What is said of a device apart from where it lies. -/
structure Dv.Ok (d : Dv) : Prop where
  fit : FitL d.cells
  calm : Calm d.cells
  some : 0 < d.cells.length
  few : d.cells.length ≤ 2000
  armed0 : 0 ≤ d.armed
  armed1 : d.armed ≤ 9223372036854775807
  ops0 : 0 ≤ d.ops
/-- The program's device: its box, its row of sectors, its map of what is safe of the loose ones. -/
structure PDev (w : World) (b g cap m : Nat) (d : Dv) : Prop where
  box : w.heap[b]? = some (.cells #[.slice (some ⟨g, 0, none⟩) d.cells.length cap, .map (some m), .int .i64 d.ops, .int .i64 d.armed, .bool (!d.dead)] 73 (0, 0))
  row : PRow w g cap d.cells
  map : ∃ D, w.ownsMap Tryz.prog 3 tokR m (Maps.size D) D ∧ Keeps D d.cells
theorem PDev.ne {w : World} {b g cap m : Nat} {d : Dv} (h : PDev w b g cap m d) : b ≠ g ∧ b ≠ m ∧ g ≠ m := by
  obtain ⟨cur, h1, _⟩ := h.row
  obtain ⟨D, ⟨es, clock, h2, _⟩, _⟩ := h.map
  have h3 := h.box
  refine ⟨fun e => ?_, fun e => ?_, fun e => ?_⟩
  · subst e; rw [h3] at h1; injection h1 with h1; injection h1 with _ h1; revert h1; decide
  · subst e; rw [h3] at h2; injection h2 with h2; cases h2
  · subst e; rw [h1] at h2; injection h2 with h2; cases h2
theorem PDev.lt {w : World} {b g cap m : Nat} {d : Dv} (h : PDev w b g cap m d) : b < w.heap.size ∧ g < w.heap.size ∧ m < w.heap.size := by
  obtain ⟨D, h2, _⟩ := h.map
  exact ⟨obj_lt h.box, h.row.lt, h2.lt⟩
/-- A device stays where its three blocks do. -/
theorem PDev.kept {w w' : World} {b g cap m : Nat} {d : Dv} (h : PDev w b g cap m d) (h1 : w'.heap[b]? = w.heap[b]?) (h2 : w'.heap[g]? = w.heap[g]?) (h3 : w'.heap[m]? = w.heap[m]?) : PDev w' b g cap m d := by
  refine ⟨h1.trans h.box, h.row.kept h2, ?_⟩
  obtain ⟨D, ⟨es, clock, hb, r⟩, hk⟩ := h.map
  exact ⟨D, ⟨es, clock, h3.trans hb, r⟩, hk⟩
theorem PDev.step {w w' : World} {b g cap m : Nat} {d : Dv} (h : PDev w b g cap m d) (hb : Below w.heap.size w w') : PDev w' b g cap m d :=
  h.kept (hb.block _ h.lt.1) (hb.block _ h.lt.2.1) (hb.block _ h.lt.2.2)
theorem PDev.drew {w : World} {b g cap m : Nat} {d : Dv} (h : PDev w b g cap m d) : PDev w.drew b g cap m d := h.kept rfl rfl rfl
/-- Another device stays. -/
theorem PDev.aside {w w' : World} {b g cap m b' g' m' : Nat} {d : Dv} (h : PDev w b g cap m d) (hb : But b' g' m' w w') (h1 : ∀ x, x = b ∨ x = g ∨ x = m → x ≠ b' ∧ x ≠ g' ∧ x ≠ m') : PDev w' b g cap m d :=
  h.kept (hb.block _ h.lt.1 (h1 b (by simp)).1 (h1 b (by simp)).2.1 (h1 b (by simp)).2.2) (hb.block _ h.lt.2.1 (h1 g (by simp)).1 (h1 g (by simp)).2.1 (h1 g (by simp)).2.2) (hb.block _ h.lt.2.2 (h1 m (by simp)).1 (h1 m (by simp)).2.1 (h1 m (by simp)).2.2)
theorem five_cells {w : World} {g : Nat} {x y z u v : Value} {t : TypeId} (h : w.heap[g]? = some (.cells #[x, y, z, u, v] t (0, 0))) :
    w.cell? ⟨g, 0, none⟩ = some x ∧ w.cell? ⟨g, 1, none⟩ = some y ∧ w.cell? ⟨g, 2, none⟩ = some z ∧ w.cell? ⟨g, 3, none⟩ = some u ∧ w.cell? ⟨g, 4, none⟩ = some v ∧ w.frozen? ⟨g, 0, none⟩ = false ∧ w.frozen? ⟨g, 1, none⟩ = false ∧ w.frozen? ⟨g, 2, none⟩ = false ∧ w.frozen? ⟨g, 3, none⟩ = false ∧ w.frozen? ⟨g, 4, none⟩ = false :=
  ⟨cell_of (j := 0) h rfl, cell_of (j := 1) h rfl, cell_of (j := 2) h rfl, cell_of (j := 3) h rfl, cell_of (j := 4) h rfl, frozen_of_row w g 0 _ _ h, frozen_of_row w g 1 _ _ h, frozen_of_row w g 2 _ _ h, frozen_of_row w g 3 _ _ h, frozen_of_row w g 4 _ _ h⟩
end Go.Proofs.YtcbmecpeockdeaaGreatDoor
namespace Go.Proofs.YtcbmecpeockdeaaGreatDoor
open Go.RowKit

/-- What fits into an int. -/
def Num64 (n : Int) : Prop := -9223372036854775808 ≤ n ∧ n ≤ 9223372036854775807

theorem fits_iff (len : Nat) (p n : Int) : (0 ≤ p ∧ p + n ≤ len) ↔ ¬ (p < 0) ∧ ¬ ((len : Int) < p ∧ 0 < n) ∧ ¬ ((len : Int) - p < n) := by omega
theorem cat_snoc (l : List ByteArray) (t : ByteArray) : cat (l ++ [t]) = cat l ++ t := by
  induction l with
  | nil => exact text_eq (by simp [cat])
  | cons a l ih =>
    rw [List.cons_append]
    show a ++ cat (l ++ [t]) = a ++ cat l ++ t
    rw [ih]
    exact text_eq (by simp)
theorem cat_size (l : List ByteArray) (h : ∀ t ∈ l, t.size = 64) : (cat l).size = 64 * l.length := by
  induction l with
  | nil => rfl
  | cons a l ih =>
    show (a ++ cat l).size = _
    rw [ByteArray.size_append, ih (fun t ht => h t (List.mem_cons_of_mem _ ht)), h a (List.mem_cons_self ..), List.length_cons]; omega

end Go.Proofs.YtcbmecpeockdeaaGreatDoor
