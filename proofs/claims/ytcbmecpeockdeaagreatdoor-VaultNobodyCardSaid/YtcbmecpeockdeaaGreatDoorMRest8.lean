/- The program's remaining: how much is left of a loose sector. -/
import Derived.Test.YtcbmecpeockdeaaGreatDoorKeys8
import Derived.Test.YtcbmecpeockdeaaGreatDoorMMap8
import Derived.Test.YtcbmecpeockdeaaGreatDoorRef8e
namespace Go.Proofs.YtcbmecpeockdeaaGreatDoor
open Go.RowKit Go.Maps

/-- How many bytes of what was written are left in the loose sector of a number. -/
def restN (k : Nat) (keep : List Bool) (torn cut : Int) : Nat := if (k : Int) = torn then cutAt cut else if keep.getD k false = true then 64 else 0
theorem rest_le (k : Nat) (keep : List Bool) (torn cut : Int) : restN k keep torn cut ≤ 64 := by
  have := cut_le cut
  unfold restN; split; omega; split <;> omega
theorem rest_left (c : Sec) (k : Nat) (keep : List Bool) (torn cut : Int) (h : c.now.size = 64 ∧ c.safe.size = 64) : c.now.extract 0 (restN k keep torn cut) ++ c.safe.extract (restN k keep torn cut) 64 = leftOf c k keep torn cut := by
  unfold restN leftOf
  split
  · rw [h.2]
  · split
    · refine text_eq ?_
      simp only [ByteArray.data_append, Array.toList_append, cut_list]
      rw [List.drop_zero, List.take_of_length_le (by rw [text_size]; omega), Nat.sub_self, List.take_zero, List.append_nil]
    · refine text_eq ?_
      simp only [ByteArray.data_append, Array.toList_append, cut_list]
      rw [List.take_zero, List.nil_append, List.drop_zero, List.take_of_length_le (by rw [text_size]; omega)]

set_option maxHeartbeats 1000000 in
theorem prest_any (k : Nat) (ka : Option Addr) (kc : Nat) (ks : List Bool) (torn cut : Int) (w : World) (hK : Bools w.heap.size w ka ks) :
    Calls Tryz.prog 35 #[.agg #[.slice ka ks.length kc, .int .i64 torn, .int .i64 cut], .int .i64 k] w fun e w' => e = .returned (.int .i64 (restN k ks torn cut)) ∧ Below w.heap.size w w' := by
  have HB : Hid (∀ o : Obj, Below w.heap.size w (w.alloc o)) := Lib.hid fun o => (Below.refl _ w).alloc (Nat.le_refl _) o
  by_cases e : (k : Int) = torn
  · have e1 : ((k : Int) == torn) = true := beq_iff_eq.2 e
    have hr : restN k ks torn cut = cutAt cut := by unfold restN; rw [if_pos e]
    rw [hr]
    have HC : Hid ((min (max cut 0) 64) = (cutAt cut : Int)) := Lib.hid (by unfold cutAt; split; omega; split <;> omega)
    clear hr e hK
    go_enter Tryz.func35, Tryz.ntmps35
    go_wp2
    go_ret
    exact ⟨by rw [← HC.out]; rfl, HB.out _⟩
  · have e1 : ((k : Int) == torn) = false := beq_eq_false_iff_ne.2 e
    by_cases hlt : k < ks.length
    · have i1 : (k : Int) < (ks.length : Int) := by omega
      have i2 : decide ((k : Int) < (ks.length : Int)) = true := decide_eq_true i1
      rcases hK with hK | ⟨b, off, rfl, hb, hc⟩
      · rw [hK] at hlt; simp at hlt
      have hc2 : (w.alloc (.cells #[.slice (some ⟨b, off, none⟩) ks.length kc, .int .i64 torn, .int .i64 cut] 39)).cell? ⟨b, off + k, none⟩ = some (.bool (ks.getD k false)) := ((HB.out _).cell (p := ⟨b, off + k, none⟩) hb).trans (hc k hlt)
      have hr : restN k ks torn cut = if ks.getD k false = true then 64 else 0 := by unfold restN; rw [if_neg e]
      rw [hr]
      generalize ks.getD k false = v at *
      clear hr e hc
      cases v with
      | true =>
        rw [if_pos rfl]
        go_enter Tryz.func35, Tryz.ntmps35
        go_wp2
        go_ret
        exact ⟨rfl, HB.out _⟩
      | false =>
        rw [if_neg (by decide)]
        go_enter Tryz.func35, Tryz.ntmps35
        go_wp2
        go_ret
        exact ⟨rfl, HB.out _⟩
    · have i2 : decide ((k : Int) < (ks.length : Int)) = false := decide_eq_false (by omega)
      have hr : restN k ks torn cut = 0 := by
        unfold restN; rw [if_neg e, List.getD_eq_getElem?_getD, List.getElem?_eq_none (by omega)]; rfl
      rw [hr]
      clear hr e hK
      go_enter Tryz.func35, Tryz.ntmps35
      go_wp2
      go_ret
      exact ⟨rfl, HB.out _⟩
end Go.Proofs.YtcbmecpeockdeaaGreatDoor
namespace Go.Proofs.YtcbmecpeockdeaaGreatDoor
open Go.RowKit

theorem loose_count (l : List Sec) (k : Nat) (hk : k ≤ l.length) : looseTo l k = ((List.range k).filter fun i => (l.getD i sec0).loose).length := by
  induction k with
  | zero => unfold looseTo; simp
  | succ k ih =>
    rw [loose_more l k (by omega), ih (by omega), List.range_succ, List.filter_append, List.length_append]
    congr 1
    have e : (l.getD k sec0) = l[k] := by rw [List.getD_eq_getElem?_getD, List.getElem?_eq_getElem (by omega)]; rfl
    by_cases h : l[k].loose = true
    · rw [if_pos h, List.filter_cons, if_pos (by rw [e]; exact h)]; rfl
    · rw [if_neg h, List.filter_cons, if_neg (by rw [e]; exact h)]; rfl
theorem looseN_split (l : List Sec) (k : Nat) (hk : k < l.length) (hl : (l.getD k sec0).loose = true) : ∃ r, looseN l = ((List.range k).filter fun i => (l.getD i sec0).loose) ++ k :: r := by
  have e : List.range l.length = List.range k ++ (k :: (List.range (l.length - k - 1)).map (k + 1 + ·)) := by
    have h1 : l.length = k + (1 + (l.length - k - 1)) := by omega
    conv => lhs; rw [h1, List.range_add]
    congr 1
    rw [List.range_add, List.map_append]
    simp [List.range_succ]
    omega
  refine ⟨((List.range (l.length - k - 1)).map (k + 1 + ·)).filter fun i => (l.getD i sec0).loose, ?_⟩
  unfold looseN
  rw [e, List.filter_append, List.filter_cons, if_pos hl]
/-- The loose sector of a number stands at its place. -/
theorem looseN_at (l : List Sec) (k : Nat) (hk : k < l.length) (hl : (l.getD k sec0).loose = true) : (looseN l)[looseTo l k]? = some k := by
  obtain ⟨r, hr⟩ := looseN_split l k hk hl
  rw [loose_count l k (by omega), hr, List.getElem?_append_right (Nat.le_refl _), Nat.sub_self]; rfl
theorem looseN_get (l : List Sec) (i k : Nat) (h : (looseN l)[i]? = some k) : k < l.length ∧ (l.getD k sec0).loose = true ∧ looseTo l k = i := by
  have hm : k ∈ looseN l := List.mem_of_getElem? h
  unfold looseN at hm
  rw [List.mem_filter, List.mem_range] at hm
  have h2 := looseN_at l k hm.1 hm.2
  obtain ⟨h3, h4⟩ := List.getElem?_eq_some_iff.1 h
  obtain ⟨h5, h6⟩ := List.getElem?_eq_some_iff.1 h2
  refine ⟨hm.1, hm.2, ?_⟩
  have hp := List.pairwise_iff_getElem.1 (looseN_rises l)
  by_cases e : looseTo l k = i
  · exact e
  · rcases Nat.lt_or_gt_of_ne e with g | g
    · have := hp _ _ h5 h3 g; omega
    · have := hp _ _ h3 h5 g; omega
/-- The sectors behind the first i loose ones settled, f telling what is left. -/
def settled (l : List Sec) (f : Nat → Sec → ByteArray) (i : Nat) : List Sec := l.mapIdx fun k c => if c.loose = true ∧ looseTo l k < i then ⟨f (looseTo l k) c, f (looseTo l k) c, false⟩ else c
theorem settled_len (l : List Sec) (f : Nat → Sec → ByteArray) (i : Nat) : (settled l f i).length = l.length := by simp [settled]
theorem settled_none (l : List Sec) (f : Nat → Sec → ByteArray) : settled l f 0 = l := by
  refine List.ext_getElem (by simp [settled]) fun k h1 h2 => ?_
  simp [settled]
theorem settled_at (l : List Sec) (f : Nat → Sec → ByteArray) (i k : Nat) (hk : k < l.length) : (settled l f i).getD k sec0 = if (l.getD k sec0).loose = true ∧ looseTo l k < i then ⟨f (looseTo l k) (l.getD k sec0), f (looseTo l k) (l.getD k sec0), false⟩ else l.getD k sec0 := by
  have e : (l.getD k sec0) = l[k] := by rw [List.getD_eq_getElem?_getD, List.getElem?_eq_getElem hk]; rfl
  rw [e, List.getD_eq_getElem?_getD, List.getElem?_eq_getElem (by rw [settled_len]; exact hk)]
  simp only [settled, List.getElem_mapIdx, Option.getD_some]
theorem settled_more (l : List Sec) (f : Nat → Sec → ByteArray) (i k : Nat) (h : (looseN l)[i]? = some k) : settled l f (i + 1) = (settled l f i).set k ⟨f i (l.getD k sec0), f i (l.getD k sec0), false⟩ := by
  obtain ⟨h1, h2, h3⟩ := looseN_get l i k h
  have e : (l.getD k sec0) = l[k] := by rw [List.getD_eq_getElem?_getD, List.getElem?_eq_getElem h1]; rfl
  refine List.ext_getElem (by simp [settled]) fun j q1 q2 => ?_
  have hj : j < l.length := by rw [settled_len] at q1; exact q1
  rw [List.getElem_set]
  simp only [settled, List.getElem_mapIdx]
  rw [e] at h2
  by_cases g : k = j
  · subst g
    rw [if_pos rfl, if_pos ⟨h2, by omega⟩, h3, e]
  · rw [if_neg g]
    by_cases g2 : l[j].loose = true ∧ looseTo l j < i
    · rw [if_pos g2, if_pos ⟨g2.1, by omega⟩]
    · rw [if_neg g2]
      by_cases g3 : l[j].loose = true ∧ looseTo l j < i + 1
      · exfalso
        have ej : (l.getD j sec0).loose = true := by rw [List.getD_eq_getElem?_getD, List.getElem?_eq_getElem hj]; exact g3.1
        have h4 : looseTo l j = i := by
          by_cases x : looseTo l j < i
          · exact absurd ⟨g3.1, x⟩ g2
          · omega
        have h5 := looseN_at l j hj ej
        rw [h4, h] at h5
        injection h5 with h5; omega
      · rw [if_neg g3]
theorem settled_fit {l : List Sec} (h : ∀ c ∈ l, c.now.size = 64 ∧ c.safe.size = 64) (f : Nat → Sec → ByteArray) (hf : ∀ i c, c.now.size = 64 ∧ c.safe.size = 64 → (f i c).size = 64) (i : Nat) : ∀ c ∈ settled l f i, c.now.size = 64 ∧ c.safe.size = 64 := by
  intro c hc
  obtain ⟨k, hk, rfl⟩ := List.getElem_of_mem hc
  have hk' : k < l.length := by rw [settled_len] at hk; exact hk
  simp only [settled, List.getElem_mapIdx]
  split
  · exact ⟨hf _ _ (h _ (List.getElem_mem hk')), hf _ _ (h _ (List.getElem_mem hk'))⟩
  · exact h _ (List.getElem_mem hk')
theorem settled_calm {l : List Sec} (h : Calm l) (f : Nat → Sec → ByteArray) (i : Nat) : Calm (settled l f i) := by
  intro c hc
  obtain ⟨k, hk, rfl⟩ := List.getElem_of_mem hc
  have hk' : k < l.length := by rw [settled_len] at hk; exact hk
  simp only [settled, List.getElem_mapIdx]
  split
  · intro _; rfl
  · exact h _ (List.getElem_mem hk')
theorem loose_lt (l : List Sec) (k : Nat) (hk : k < l.length) (hl : (l.getD k sec0).loose = true) : looseTo l k < (looseN l).length := (List.getElem?_eq_some_iff.1 (looseN_at l k hk hl)).1
theorem settled_all (l : List Sec) (f : Nat → Sec → ByteArray) : settled l f (looseN l).length = l.mapIdx fun k c => if c.loose = true then ⟨f (looseTo l k) c, f (looseTo l k) c, false⟩ else c := by
  refine List.ext_getElem (by simp [settled]) fun k h1 h2 => ?_
  have hk : k < l.length := by rw [settled_len] at h1; exact h1
  simp only [settled, List.getElem_mapIdx]
  by_cases g : l[k].loose = true
  · rw [if_pos g, if_pos ⟨g, loose_lt l k hk (by rw [List.getD_eq_getElem?_getD, List.getElem?_eq_getElem hk]; exact g)⟩]
  · rw [if_neg g, if_neg (fun h => g h.1)]
theorem settled_flush {l : List Sec} (h : Calm l) : settled l (fun _ c => c.now) (looseN l).length = flushed l := by
  rw [settled_all]
  refine List.ext_getElem (by simp [flushed]) fun k h1 h2 => ?_
  have hk : k < l.length := by simpa using h1
  simp only [flushed, List.getElem_mapIdx, List.getElem_map]
  by_cases g : l[k].loose = true
  · rw [if_pos g]
  · rw [if_neg g]
    have g' : l[k].loose = false := by cases e : l[k].loose with | true => exact absurd e g | false => rfl
    have := h _ (List.getElem_mem hk) g'
    cases hc : l[k] with
    | mk n s lo => rw [hc] at this g'; simp only at this g'; rw [g', this]
theorem settled_boot (l : List Sec) (keep : List Bool) (torn cut : Int) : settled l (fun i c => leftOf c i keep torn cut) (looseN l).length = booted l keep torn cut l.length := by
  rw [settled_all]
  refine List.ext_getElem (by simp [booted]) fun k h1 h2 => ?_
  have hk : k < l.length := by simpa using h1
  simp only [booted, List.getElem_mapIdx]
  by_cases g : l[k].loose = true
  · rw [if_pos g, if_pos ⟨hk, g⟩]
  · rw [if_neg g, if_neg (fun h => g h.2)]
end Go.Proofs.YtcbmecpeockdeaaGreatDoor
namespace Go.Proofs.YtcbmecpeockdeaaGreatDoor
open Go.RowKit Go.Maps

theorem IntsNew.but {A B b g m : Nat} {w w' : World} {a : Option Addr} {xs : List Int} (h : IntsNew A B w a xs) (hB : B ≤ w.heap.size) (hb : But b g m w w') (h1 : b < A) (h2 : g < A) (h3 : m < A) : IntsNew A B w' a xs := by
  rcases h with h | ⟨x, off, ha, hx, hl, hc⟩
  · exact Or.inl h
  · exact Or.inr ⟨x, off, ha, hx, hl, fun j hj => (World.cell?_of_block (w := w) (hb.block x (by omega) (by omega) (by omega) (by omega))).trans (hc j hj)⟩
theorem IntsNew.at {A B : Nat} {w : World} {a : Option Addr} {xs : List Int} (h : IntsNew A B w a xs) {k : Nat} (hk : k < xs.length) : ∃ x off, a = some ⟨x, off, none⟩ ∧ w.cell? ⟨x, off + k, none⟩ = some (.int .i64 (numAt xs k)) := by
  rcases h with h | ⟨x, off, ha, _, _, hc⟩
  · rw [h] at hk; simp at hk
  · exact ⟨x, off, ha, hc k hk⟩
theorem looseI_at (l : List Sec) (i : Nat) (hi : i < (looseI l).length) : ∃ k : Nat, (looseN l)[i]? = some k ∧ numAt (looseI l) i = (k : Int) := by
  unfold looseI at hi ⊢
  rw [List.length_map] at hi
  exact ⟨(looseN l)[i], List.getElem?_eq_getElem hi, by unfold numAt; rw [List.getD_eq_getElem?_getD, List.getElem?_map, List.getElem?_eq_getElem hi]; rfl⟩
theorem Dv.Ok.count {d : Dv} (h : d.Ok) : d.count.Ok := by
  have h0 := h.armed0
  have h1 := h.armed1
  have h2 := h.ops0
  refine ⟨h.fit, h.calm, h.some, h.few, ?_, ?_, ?_⟩
  · unfold Dv.count; simp only; split <;> omega
  · unfold Dv.count; simp only; split <;> omega
  · unfold Dv.count; simp only; omega
theorem Dv.Ok.settled {d : Dv} (h : d.Ok) (f : Nat → Sec → ByteArray) (hf : ∀ i c, c.now.size = 64 ∧ c.safe.size = 64 → (f i c).size = 64) (i : Nat) (x y : Int) (z : Bool) (hx : 0 ≤ x) (hy0 : 0 ≤ y) (hy1 : y ≤ 9223372036854775807) : Dv.Ok ⟨settled d.cells f i, x, y, z⟩ :=
  ⟨settled_fit h.fit f hf i, settled_calm h.calm f i, by show 0 < (Go.Proofs.YtcbmecpeockdeaaGreatDoor.settled d.cells f i).length; rw [settled_len]; exact h.some, by show (Go.Proofs.YtcbmecpeockdeaaGreatDoor.settled d.cells f i).length ≤ 2000; rw [settled_len]; exact h.few, hy0, hy1, hx⟩

set_option maxHeartbeats 2000000 in
theorem pflush_any {w : World} {b g cap m : Nat} {d : Dv} (h : PDev w b g cap m d) (hd : d.Ok) (ho : d.ops < 9223372036854775807) :
    Calls Tryz.prog 41 #[.pointer (some ⟨b, 0, none⟩)] w fun e w' => e = .returned (.int .i64 d.flushE) ∧ PDev w' b g cap m d.flush ∧ But b g m w w' := by
  have hde := pdead_any h hd
  have H := Lib.hid h
  have HD := Lib.hid hd
  cases hdd : d.dead with
  | true =>
    have hf : d.flush = d := by unfold Dv.flush; rw [if_pos hdd]
    have he : d.flushE = 20 := by unfold Dv.flushE; rw [if_pos hdd]
    rw [hdd, if_pos rfl] at hde
    rw [hf, he]
    clear hf he h hd hdd
    go_enter Tryz.func41, Tryz.ntmps41
    go_wp2_with (go_at_call 59; refine hde.mono ?_; rintro e w1 ⟨rfl, rfl⟩)
    go_ret
    exact ⟨rfl, H.out, But.refl _ _ _ _⟩
  | false =>
    have hst := pstep_any h hd ho
    rw [hdd, if_neg (by decide)] at hde
    by_cases hh : d.hit = true
    · have hf : d.flush = d.count := by unfold Dv.flush; rw [hdd, if_neg (by decide), if_pos hh]
      have he : d.flushE = 20 := by unfold Dv.flushE; rw [hdd, if_neg (by decide), if_pos hh]
      rw [if_pos hh] at hst
      rw [hf, he]
      generalize d.count = D at *
      clear hf he h hd hdd hh
      go_enter Tryz.func41, Tryz.ntmps41
      go_wp2_with (first
        | (go_at_call 59; refine hde.mono ?_; rintro e w1 ⟨rfl, rfl⟩)
        | (go_at_call 62; refine hst.mono ?_; rintro e w2 ⟨rfl, hp, hb⟩))
      go_ret
      exact ⟨rfl, hp, hb⟩
    · have hf : d.flush = { d.count with cells := flushed d.cells } := by unfold Dv.flush; rw [hdd, if_neg (by decide), if_neg hh]
      have he : d.flushE = 0 := by unfold Dv.flushE; rw [hdd, if_neg (by decide), if_neg hh]
      rw [if_neg hh] at hst
      rw [hf, he]
      have HOK := Lib.hid hd.count
      have HCC : Hid (d.count.cells = d.cells) := Lib.hid rfl
      have HFL := Lib.hid (settled_flush hd.calm)
      obtain ⟨L, hL⟩ : ∃ L, looseI d.cells = L := ⟨_, rfl⟩
      have HL := Lib.hid hL
      have hLN : Hid (L.length = (looseN d.cells).length) := Lib.hid (by rw [← hL]; unfold looseI; rw [List.length_map])
      have hll : L.length ≤ 2000 := by have := looseI_len d.cells; have := hd.few; rw [← hL]; omega
      have HLT := Lib.hid h.lt
      clear hL
      generalize d.count = D at *
      clear hf he h hd hdd hh
      go_enter Tryz.func41, Tryz.ntmps41
      go_wp2_with (first
        | (go_at_call 59; refine hde.mono ?_; rintro e w1 ⟨rfl, rfl⟩)
        | (go_at_call 62; refine hst.mono ?_; rintro e w2 ⟨rfl, hp, hb⟩; have HP := Lib.hid hp; have HB := Lib.hid hb; clear hp hb)
        | (go_at_call 33; refine (ploose_any HP.out HOK.out).mono ?_; rw [HCC.out, HL.out]; rintro e w3 ⟨a, c, rfl, hi, hb3⟩; have HI := Lib.hid hi; have HB3 := Lib.hid hb3; clear hi hb3))
      obtain ⟨n, hn⟩ : ∃ n, L.length = n := ⟨_, rfl⟩
      have HN := Lib.hid hn
      rw [hn] at hll ⊢
      clear hn hLN
      go_loopw [20] (fun i' wr => ∃ i : Nat, i' = .int .i64 i ∧ i ≤ n ∧ Hid (PDev wr b g cap m ⟨settled d.cells (fun _ c => c.now) i, D.ops, D.armed, D.dead⟩) ∧ Hid (But b g m w wr) ∧ Hid (IntsNew w2.heap.size w3.heap.size wr a L) ∧ Hid (w3.heap.size ≤ wr.heap.size)) (fun i _ => n - (intOf i).toNat)
      case atStart =>
        refine ⟨0, rfl, by omega, Lib.hid ?_, Lib.hid (HB.out.step HB3.out), HI, Lib.hid (Nat.le_refl _)⟩
        have hp := HP.out.step HB3.out
        rw [settled_none, ← HCC.out]
        exact hp
      case round =>
        obtain ⟨i, rfl, hi, hP, hB, hI, hS⟩ := hrel
        by_cases hlt : i < n
        · have i1 : (i : Int) < (n : Int) := by omega
          obtain ⟨x, off, rfl, hc⟩ := hI.out.at (k := i) (by rw [HN.out]; exact hlt)
          obtain ⟨k, hk, hnum⟩ := looseI_at d.cells i (by rw [HL.out, HN.out]; exact hlt)
          rw [HL.out] at hnum
          rw [hnum] at hc
          obtain ⟨k1, k2, k3⟩ := looseN_get _ _ _ hk
          have hOK : Dv.Ok ⟨settled d.cells (fun _ c => c.now) i, D.ops, D.armed, D.dead⟩ := HD.out.settled _ (fun _ c h => h.1) i _ _ _ HOK.out.ops0 HOK.out.armed0 HOK.out.armed1
          have hat := settled_at d.cells (fun _ c => c.now) i k k1
          rw [if_neg (by omega)] at hat
          have hset := psettle_all hP.out hOK k (by show k < (settled d.cells (fun _ c => c.now) i).length; rw [settled_len]; exact k1) (by show ((settled d.cells (fun _ c => c.now) i).getD k sec0).loose = true; rw [hat]; exact k2) (d.cells.getD k sec0).now (by show _ = ((settled d.cells (fun _ c => c.now) i).getD k sec0).now; rw [hat])
          have hmore := settled_more d.cells (fun _ c => c.now) i k hk
          simp only at hset hmore
          rw [← hmore] at hset
          obtain ⟨SS, hSS⟩ : ∃ SS, settled d.cells (fun _ c => c.now) (i + 1) = SS := ⟨_, rfl⟩
          rw [hSS] at hset
          have HSS := Lib.hid hSS
          have hlt2 := HLT.out
          have hb2 := HB.out.size
          clear hnum k1 k2 k3 hOK hat hmore hSS hk
          go_wp2_with (go_at_call 34; refine hset.mono ?_; rintro e w4 ⟨rfl, hp4, hb4⟩; have HP4 := Lib.hid hp4; have HB4 := Lib.hid hb4; clear hp4 hb4)
          go_roundw
          case rel => exact ⟨i + 1, by go_num, by omega, by rw [HSS.out]; exact HP4, Lib.hid (hB.out.trans HB4.out), Lib.hid (hI.out.but hS.out HB4.out (by omega) (by omega) (by omega)), Lib.hid (Nat.le_trans hS.out HB4.out.size)⟩
          case measure => simp [intOf]; omega
        · obtain rfl : i = n := by omega
          have HFF : Hid (settled d.cells (fun _ c => c.now) i = flushed d.cells) := Lib.hid (by
            have := HFL.out
            rwa [show (looseN d.cells).length = i by rw [← HN.out, ← HL.out]; unfold looseI; rw [List.length_map]] at this)
          go_wp2
          go_ret
          refine ⟨rfl, ?_, hB.out⟩
          rw [← HFF.out]
          exact hP.out
end Go.Proofs.YtcbmecpeockdeaaGreatDoor
namespace Go.Proofs.YtcbmecpeockdeaaGreatDoor
open Go.RowKit Go.Maps

theorem psettle_le {w : World} {b g cap m : Nat} {d : Dv} (h : PDev w b g cap m d) (hd : d.Ok) (k j : Nat) (hk : k < d.cells.length) (hl : (d.cells.getD k sec0).loose = true) (hj : j ≤ 64) (x : ByteArray) (hx : x = (d.cells.getD k sec0).now.extract 0 j ++ (d.cells.getD k sec0).safe.extract j 64) :
    Calls Tryz.prog 34 #[.pointer (some ⟨b, 0, none⟩), .int .i64 k, .int .i64 j] w fun e w' => e = .returned (.tuple #[]) ∧ PDev w' b g cap m ⟨d.cells.set k ⟨x, x, false⟩, d.ops, d.armed, d.dead⟩ ∧ But b g m w w' := by
  by_cases e : j = 64
  · subst e
    refine psettle_all h hd k hk hl x ?_
    rw [hx]
    refine text_eq ?_
    have hs := (fit_at hd.fit hk).1
    simp only [ByteArray.data_append, Array.toList_append, cut_list]
    rw [List.drop_zero, List.take_of_length_le (by rw [text_size]; omega), Nat.sub_self, List.take_zero, List.append_nil]
  · exact psettle_any h hd k j hk hl (by omega) x hx
/-- A slice of bools that has no element, or lies in none of three blocks. -/
def Far (a : Option Addr) (xs : List Bool) (b g m : Nat) : Prop := xs = [] ∨ ∀ x off, a = some ⟨x, off, none⟩ → x ≠ b ∧ x ≠ g ∧ x ≠ m
theorem Bools.but {B b g m : Nat} {w w' : World} {a : Option Addr} {xs : List Bool} (h : Bools B w a xs) (hb : But b g m w w') (h0 : B ≤ w.heap.size) (hne : Far a xs b g m) : Bools B w' a xs := by
  rcases h with h | ⟨x, off, ha, hB, hc⟩
  · exact Or.inl h
  rcases hne with h | hne
  · exact Or.inl h
  · have hn := hne x off ha
    exact Or.inr ⟨x, off, ha, hB, fun j hj => (World.cell?_of_block (w := w) (hb.block x (by omega) hn.1 hn.2.1 hn.2.2)).trans (hc j hj)⟩
theorem Bools.up {B B' : Nat} {w : World} {a : Option Addr} {xs : List Bool} (h : Bools B w a xs) (hB : B ≤ B') : Bools B' w a xs := by
  rcases h with h | ⟨b, off, ha, hb, hc⟩
  · exact Or.inl h
  · exact Or.inr ⟨b, off, ha, by omega, hc⟩

set_option maxHeartbeats 2000000 in
theorem pboot_any {w : World} {b g cap m : Nat} {d : Dv} (h : PDev w b g cap m d) (hd : d.Ok) (ka : Option Addr) (kc : Nat) (ks : List Bool) (torn cut : Int) (hK : Bools w.heap.size w ka ks) (hne : Far ka ks b g m) :
    Calls Tryz.prog 17 #[.pointer (some ⟨b, 0, none⟩), .agg #[.slice ka ks.length kc, .int .i64 torn, .int .i64 cut]] w fun e w' => e = .returned (.int .i64 0) ∧ PDev w' b g cap m (d.boot ks torn cut) ∧ But b g m w w' := by
  have hlt := h.lt
  obtain ⟨C, hC⟩ : ∃ C : Obj, C = .cells #[.slice ka ks.length kc, .int .i64 torn, .int .i64 cut] 39 := ⟨_, rfl⟩
  have hB0 : Below w.heap.size w (w.alloc C) := (Below.refl _ w).alloc (Nat.le_refl _) _
  have hN0 := heap_alloc_new w C
  have h1 := h.step hB0
  have hma := pmade_any h1 hd
  have hlo := ploose_any h1 hd
  have hsz0 : (w.alloc C).heap.size = w.heap.size + 1 := by simp
  have hK1 := hK.below hB0
  obtain ⟨L, hL⟩ : ∃ L, looseI d.cells = L := ⟨_, rfl⟩
  have hll : L.length ≤ 2000 := by have := looseI_len d.cells; have := hd.few; rw [← hL]; omega
  have HL := Lib.hid hL
  have HFL := Lib.hid (settled_boot d.cells ks torn cut)
  rw [hL] at hlo
  have HP := Lib.hid h1
  have HB0 := Lib.hid hB0
  have HN := Lib.hid hN0
  have HD := Lib.hid hd
  have HK := Lib.hid hK1
  have HNE := Lib.hid hne
  have HLT := Lib.hid hlt
  have HSZ := Lib.hid hsz0
  have HF := Lib.hid (fun i c (h : c.now.size = 64 ∧ c.safe.size = 64) => left_size c i ks torn cut h)
  obtain ⟨F, hF⟩ : ∃ F : Nat → Sec → ByteArray, F = fun i c => leftOf c i ks torn cut := ⟨_, rfl⟩
  have HFE := Lib.hid hF
  rw [← hF] at HFL
  clear h hd h1 hB0 hN0 hK hK1 hL hlt hsz0 hF hne
  go_enter Tryz.func17, Tryz.ntmps17
  go_upto_region 1 with fail
  rw [← hC]
  generalize w.alloc C = W1 at *
  rw [hC] at HN
  clear hC
  go_wp2_with (first
    | (go_at_call 32; refine hma.mono ?_; rintro e w1 ⟨rfl, rfl⟩)
    | (go_at_call 33; refine hlo.mono ?_; rintro e w3 ⟨a, c, rfl, hi, hb3⟩; have HI := Lib.hid hi; have HB3 := Lib.hid hb3; clear hi hb3))
  obtain ⟨n, hn⟩ : ∃ n, L.length = n := ⟨_, rfl⟩
  have HNN := Lib.hid hn
  rw [hn] at hll ⊢
  clear hn hma hlo
  go_loopw [13] (fun i' wr => ∃ i : Nat, i' = .int .i64 i ∧ i ≤ n ∧ Hid (PDev wr b g cap m ⟨settled d.cells F i, d.ops, d.armed, d.dead⟩) ∧ Hid (But b g m w wr) ∧ Hid (But b g m W1 wr) ∧ Hid (IntsNew W1.heap.size w3.heap.size wr a L) ∧ Hid (w3.heap.size ≤ wr.heap.size)) (fun i _ => n - (intOf i).toNat)
  case atStart =>
    refine ⟨0, rfl, by omega, Lib.hid ?_, Lib.hid (((But.refl b g m w).step HB0.out).step HB3.out), Lib.hid ((But.refl b g m W1).step HB3.out), HI, Lib.hid (Nat.le_refl _)⟩
    rw [settled_none]
    exact HP.out.step HB3.out
  case round =>
    obtain ⟨i, rfl, hi, hP, hBB, hB1, hI, hS⟩ := hrel
    by_cases hlt : i < n
    · have i1 : (i : Int) < (n : Int) := by omega
      obtain ⟨x, off, rfl, hc⟩ := hI.out.at (k := i) (by rw [HNN.out]; exact hlt)
      obtain ⟨k, hk, hnum⟩ := looseI_at d.cells i (by rw [HL.out, HNN.out]; exact hlt)
      rw [HL.out] at hnum
      rw [hnum] at hc
      obtain ⟨k1, k2, k3⟩ := looseN_get _ _ _ hk
      have hOK : Dv.Ok ⟨settled d.cells F i, d.ops, d.armed, d.dead⟩ := HD.out.settled _ (fun i c h => by rw [HFE.out]; exact HF.out i c h) i _ _ _ HD.out.ops0 HD.out.armed0 HD.out.armed1
      have hat := settled_at d.cells F i k k1
      rw [if_neg (by omega)] at hat
      have hfa := fit_at HD.out.fit k1
      have hlt2 := HLT.out
      have hsz := HSZ.out
      have hbx := But.obj (k := w.heap.size) hB1.out HN.out (by omega) (by omega) (by omega)
      obtain ⟨c0, c1, c2, _⟩ := three_cells hbx
      have hw1 : W1.heap.size ≤ wr.heap.size := hB1.out.size
      have hw2 : w.heap.size ≤ W1.heap.size := by omega
      have hKr : Bools wr.heap.size wr ka ks := (HK.out.but hB1.out hw2 HNE.out).up (Nat.le_trans hw2 hw1)
      have hre := prest_any i ka kc ks torn cut wr hKr
      have hle := rest_le i ks torn cut
      have hset : ∀ W, Below wr.heap.size wr W → Calls Tryz.prog 34 #[.pointer (some ⟨b, 0, none⟩), .int .i64 k, .int .i64 (restN i ks torn cut)] W fun e w' => e = .returned (.tuple #[]) ∧ PDev w' b g cap m ⟨(settled d.cells F i).set k ⟨F i (d.cells.getD k sec0), F i (d.cells.getD k sec0), false⟩, d.ops, d.armed, d.dead⟩ ∧ But b g m W w' := fun W hW =>
        psettle_le (hP.out.step hW) hOK k _ (by show k < (settled d.cells F i).length; rw [settled_len]; exact k1) (by show ((settled d.cells F i).getD k sec0).loose = true; rw [hat]; exact k2) hle _ (by show _ = ((settled d.cells F i).getD k sec0).now.extract _ _ ++ ((settled d.cells F i).getD k sec0).safe.extract _ _; rw [hat, rest_left _ _ _ _ _ hfa, HFE.out])
      have hmore := settled_more d.cells F i k hk
      rw [← hmore] at hset
      obtain ⟨SS, hSS⟩ : ∃ SS, settled d.cells F (i + 1) = SS := ⟨_, rfl⟩
      rw [hSS] at hset
      have HSS := Lib.hid hSS
      generalize restN i ks torn cut = R at *
      clear hnum k1 k2 k3 hOK hat hmore hSS hk hbx hKr hfa hle hsz hw1 hw2
      go_wp2_with (first
        | (go_at_call 35; refine hre.mono ?_; rintro e w5 ⟨rfl, hb5⟩; have HB5 := Lib.hid hb5; clear hb5)
        | (go_at_call 34; refine (hset _ HB5.out).mono ?_; rintro e w4 ⟨rfl, hp4, hb4⟩; have HP4 := Lib.hid hp4; have HB4 := Lib.hid ((But.of_below (b := b) (g := g) (m := m) HB5.out).trans hb4); clear hp4 hb4))
      go_roundw
      case rel =>
        have hsz := HSZ.out
        exact ⟨i + 1, by go_num, by omega, by rw [HSS.out]; exact HP4, Lib.hid (hBB.out.trans HB4.out), Lib.hid (hB1.out.trans HB4.out), Lib.hid (hI.out.but hS.out HB4.out (by omega) (by omega) (by omega)), Lib.hid (Nat.le_trans hS.out HB4.out.size)⟩
      case measure => simp [intOf]; omega
    · obtain rfl : i = n := by omega
      have HFF : Hid (settled d.cells F i = booted d.cells ks torn cut d.cells.length) := Lib.hid (by
        have := HFL.out
        rwa [show (looseN d.cells).length = i by rw [← HNN.out, ← HL.out]; unfold looseI; rw [List.length_map]] at this)
      obtain ⟨c0, c1, c2, c3, c4, f0, f1, f2, f3, f4⟩ := five_cells hP.out.box
      go_wp2
      go_ret
      refine ⟨rfl, ?_, (hBB.out.cell _ (Or.inl rfl)).cell _ (Or.inl rfl)⟩
      unfold Dv.boot
      rw [← HFF.out]
      exact hP.out.boxed (z := false) (heap_setCell_same _ b 3 _ _ _ (heap_setCell_same _ b 4 _ _ (.bool true) hP.out.box)) (fun k hk => by rw [cell_else _ _ _ _ _ hk, cell_else _ _ _ _ _ hk])
end Go.Proofs.YtcbmecpeockdeaaGreatDoor
