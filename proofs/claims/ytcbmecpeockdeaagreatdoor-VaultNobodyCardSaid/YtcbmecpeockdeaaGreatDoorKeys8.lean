/- The program's loose and Loose: the numbers of the loose sectors, rising. -/
import Derived.Test.YtcbmecpeockdeaaGreatDoorLib8
import Derived.Test.YtcbmecpeockdeaaGreatDoorMInts
import Derived.Test.YtcbmecpeockdeaaGreatDoorMake8
import Derived.Shelf.SlIterI.Nil
import Derived.Shelf.SortM.Plain
import Derived.Shelf.SortM.SortNone
namespace Go.Proofs.YtcbmecpeockdeaaGreatDoor
open Go.RowKit Go.Maps Go.Sort Go.Shelf

theorem sortsK (m : Nat) : AnyZI.SortsIn Tryz.prog Tryz.laySorted_ren Fence.wide m :=
  ⟨fun blk off cap ss W hH hblk hsz => callsIn_wide.2 (AnyM.slices_Sort_int Tryz.laySort blk off cap ss W hH hblk hsz),
   fun p cap W => callsIn_wide.2 (AnyM.slices_Sort_int_none Tryz.laySort p cap W)⟩

set_option maxHeartbeats 1000000 in
theorem ploose_own {w : World} {b g cap m : Nat} {d : Dv} (h : PDev w b g cap m d) (hd : d.Ok) :
    Calls Tryz.prog 33 #[.pointer (some ⟨b, 0, none⟩)] w fun e w' => ∃ v, e = .returned v ∧ w'.ownsRow w.heap.size 3 1 v (looseI d.cells).length (intCells (looseI d.cells)) ∧ Below w.heap.size w w' := by
  obtain ⟨D0, hown, hK⟩ := h.map
  have hcan := hown.canon lawK
  have hsz := keeps_size _ hK hcan
  have hll := looseI_len d.cells
  have hfew := hd.few
  have hmax : Maps.size D0 ≤ maxLen := by unfold maxLen; omega
  have hbytes : Maps.size D0 * 8 ≤ 140737488355328 := by omega
  obtain ⟨c0, c1, _⟩ := five_cells h.box
  refine (callsIn_wide (n := 6)).1 ?_
  have hbl := hown.lt
  have hseq : SeqGives Fence.wide 2 Tryz.prog 71 #[.pointer (some ⟨w.heap.size, 0, none⟩)] encZ (fun ss => ss.Perm (intKeys D0)) (Maps.size D0) (w.alloc (.cells #[.map (some m)] 71)) :=
    AnyZI.keys_gives (ρ := Tryz.layKeys_ren) { Tryz.layKeys with } Fence.wide _ trivial rfl (by omega) w.heap.size m _ D0 _ (by simp) (by simp) (by
      obtain ⟨es, clock, hb, Ft, hs, hD⟩ := hown
      exact ⟨es, clock, (Below.heap_alloc _ _ m hbl).trans hb, Ft, hs, hD⟩)
  have cK : ∀ mb W, CallsIn Fence.wide 5 Tryz.prog 52 #[.map mb] W fun e w' => e = .returned (.func (.func 71) #[] #[.pointer (some ⟨W.heap.size, 0, none⟩)]) ∧ w' = W.alloc (.cells #[.map mb] 71) := fun mb W => AnyZI.keys_in Tryz.layKeys Fence.wide 5 trivial rfl mb W
  have cS := AnyZI.sorted_in Tryz.laySorted Fence.wide 5 trivial trivial trivial trivial rfl (by omega) (sortsK _) (enters_of Tryz.func70 (by kernel_rfl) rfl) 71 #[.pointer (some ⟨w.heap.size, 0, none⟩)] trivial (enters_of Tryz.func71 (by kernel_rfl) rfl) _ _ hmax hbytes _ hseq
  change CallsIn _ _ Tryz.prog 51 _ _ _ at cS
  have hfK : Fence.wide.fn 52 := trivial
  have hfS : Fence.wide.fn 51 := trivial
  have HK := Lib.hid hK
  have HC := Lib.hid hcan
  clear hown hK hcan hsz hll hfew hmax hbytes hseq hbl h hd c0
  refine callsIn_of_wp Tryz.func33 rfl trivial ?_ rfl
  simp only [Tryz.ntmps33, List.size_toArray, List.length_cons, List.length_nil, Nat.reduceAdd, Nat.reduceSub, Array.replicate_succ, Array.replicate_zero, List.push_toArray, List.append_toArray, List.nil_append, List.cons_append]
  gi_wp2_with (first
    | (gi_at_call 52; refine (cK _ _).mono ?_; rintro e w' ⟨rfl, rfl⟩)
    | (gi_at_call 51; refine cS.mono ?_; rintro e w' ⟨v, ss, rfl, hS, hrow, hnil, hb⟩))
  go_ret
  have hs := sorted_loose d.cells HK.out HC.out hS
  have hlen : ss.length = (looseI d.cells).length := (hS.trans (HK.out.perm HC.out).symm).length_eq
  rw [hs, hlen] at hrow
  exact ⟨v, rfl, ownsRow_base_a hrow (by simp), ((Below.refl _ w).alloc (Nat.le_refl _) _).trans (hb.mono (by simp))⟩
theorem ploose_any {w : World} {b g cap m : Nat} {d : Dv} (h : PDev w b g cap m d) (hd : d.Ok) :
    Calls Tryz.prog 33 #[.pointer (some ⟨b, 0, none⟩)] w fun e w' => ∃ a c, e = .returned (.slice a (looseI d.cells).length c) ∧ IntsNew w.heap.size w'.heap.size w' a (looseI d.cells) ∧ Below w.heap.size w w' := by
  refine (ploose_own h hd).mono ?_
  rintro e w' ⟨v, rfl, ho, hb⟩
  obtain ⟨a, c, rfl, hi⟩ := ints_own_new ho
  exact ⟨a, c, rfl, hi, hb⟩
theorem loose_eq (d : Dv) : d.loose = if d.dead = true then [] else looseI d.cells := rfl
end Go.Proofs.YtcbmecpeockdeaaGreatDoor
