/- Acts on a device in plain words. -/
import Derived.Test.YtocengdojdeiiaaActs8
import Derived.Test.YtocengdojdeiiaaCopy8
import Derived.Test.YtocengdojdeiiaaRef8f
namespace Go.Proofs.Ytocengdojdeiiaa
open Go.RowKit

/-- What an act writes. -/
def AV.text (a : AV) : ByteArray := if a.num < 0 then ⟨#[115, 104, 111, 114, 116]⟩ else fillT a.num.toNat a.byte
def Dv.doA (d : Dv) (a : AV) : Dv :=
  if a.kind = 0 then d.write a.pos a.text else if a.kind = 1 then d.flush else if a.kind = 2 then d.arm a.num else if a.kind = 3 then d.off else if a.kind = 4 then d.boot a.keep a.torn a.cut else d
def Dv.doE (d : Dv) (a : AV) : Int :=
  if a.kind = 0 then d.writeE a.pos a.text else if a.kind = 1 then d.flushE else if a.kind = 2 then d.armE a.num else 0
theorem text_le (a : AV) (h : a.num ≤ 100) : a.text.size ≤ 6400 := by
  unfold AV.text
  split
  · show (5 : Nat) ≤ 6400; omega
  · rw [fillT_size]; omega
theorem Dv.Ok.write {d : Dv} (h : d.Ok) (p : Int) (t : ByteArray) : (d.write p t).Ok := by
  unfold Dv.write
  split
  · rename_i hw
    obtain ⟨_, h1, h2, _, _⟩ := (writable_iff d p t).1 hw
    obtain ⟨n, hn⟩ : ∃ n, t.size / 64 = n := ⟨_, rfl⟩
    rw [hn]
    have hr := reach_le d n
    have a0 := h.armed0
    have a1 := h.armed1
    have o0 := h.ops0
    have hra : 0 < d.armed → (d.reach n : Int) ≤ d.armed := fun h' => by
      unfold Dv.reach; split <;> omega
    refine ⟨fit_wrote h.fit _ t _ n (by omega) hr, calm_wrote h.calm _ t _, ?_, ?_, ?_, ?_, ?_⟩
    · show 0 < (Go.Proofs.Ytocengdojdeiiaa.wrote d.cells p.toNat t (d.reach n)).length; rw [wrote_len]; exact h.some
    · show (Go.Proofs.Ytocengdojdeiiaa.wrote d.cells p.toNat t (d.reach n)).length ≤ 2000; rw [wrote_len]; exact h.few
    · show 0 ≤ (if 0 < d.armed then d.armed - d.reach n else d.armed); split
      · rename_i h'; have := hra h'; omega
      · omega
    · show (if 0 < d.armed then d.armed - d.reach n else d.armed) ≤ 9223372036854775807; split <;> omega
    · show 0 ≤ d.ops + d.reach n; omega
  · exact h
theorem flushed_len (l : List Sec) : (flushed l).length = l.length := by simp [flushed]
theorem Dv.Ok.flush {d : Dv} (h : d.Ok) : d.flush.Ok := by
  unfold Dv.flush
  split
  · exact h
  · split
    · exact h.count
    · have hc := h.count
      exact ⟨fit_flushed h.fit, fun c hc _ => by obtain ⟨x, _, rfl⟩ := List.mem_map.1 hc; rfl, by show 0 < (flushed d.cells).length; rw [flushed_len]; exact h.some, by show (flushed d.cells).length ≤ 2000; rw [flushed_len]; exact h.few, hc.armed0, hc.armed1, hc.ops0⟩
theorem Dv.Ok.arm {d : Dv} (h : d.Ok) (n : Int) (hn : n ≤ 9223372036854775807) : (d.arm n).Ok := by
  unfold Dv.arm
  split
  · rename_i he
    have : 1 ≤ n := by
      unfold Dv.armE at he
      split at he
      · omega
      · split at he
        · omega
        · omega
    exact ⟨h.fit, h.calm, h.some, h.few, by show 0 ≤ n; omega, hn, h.ops0⟩
  · exact h
theorem Dv.Ok.off {d : Dv} (h : d.Ok) : d.off.Ok := ⟨h.fit, h.calm, h.some, h.few, Int.le_refl _, by show (0 : Int) ≤ _; omega, h.ops0⟩
theorem calm_booted {l : List Sec} (h : Calm l) (keep : List Bool) (torn cut : Int) (i : Nat) : Calm (booted l keep torn cut i) := by
  intro c hc
  obtain ⟨k, hk, rfl⟩ := List.getElem_of_mem hc
  have hk' : k < l.length := by rw [booted_len] at hk; exact hk
  simp only [booted, List.getElem_mapIdx]
  split
  · intro _; rfl
  · exact h _ (List.getElem_mem hk')
theorem Dv.Ok.boot {d : Dv} (h : d.Ok) (keep : List Bool) (torn cut : Int) : (d.boot keep torn cut).Ok :=
  ⟨fit_booted h.fit keep torn cut _, calm_booted h.calm keep torn cut _, by show 0 < (booted d.cells keep torn cut d.cells.length).length; rw [booted_len]; exact h.some, by show (booted d.cells keep torn cut d.cells.length).length ≤ 2000; rw [booted_len]; exact h.few, Int.le_refl _, by show (0 : Int) ≤ _; omega, h.ops0⟩
theorem Dv.Ok.doA {d : Dv} (h : d.Ok) (a : AV) (hn : a.num ≤ 9223372036854775807) : (d.doA a).Ok := by
  unfold Dv.doA
  split; exact h.write _ _
  split; exact h.flush
  split; exact h.arm _ hn
  split; exact h.off
  split; exact h.boot _ _ _
  exact h
theorem write_len (d : Dv) (p : Int) (t : ByteArray) : (d.write p t).cells.length = d.cells.length := by
  unfold Dv.write; split
  · exact wrote_len _ _ _ _
  · rfl
theorem do_len (d : Dv) (a : AV) : (d.doA a).cells.length = d.cells.length := by
  unfold Dv.doA
  split; exact write_len _ _ _
  split; (unfold Dv.flush; split; rfl; split; rfl; exact flushed_len _)
  split; (unfold Dv.arm; split <;> rfl)
  split; rfl
  split; exact booted_len _ _ _ _ _
  rfl
theorem do_ops (d : Dv) (a : AV) (hn : a.num ≤ 100) : (d.doA a).ops ≤ d.ops + 101 := by
  have ht := text_le a hn
  unfold Dv.doA
  split
  · unfold Dv.write
    split
    · have := reach_le d (a.text.size / 64)
      show d.ops + (d.reach (a.text.size / 64) : Nat) ≤ _
      omega
    · omega
  split
  · unfold Dv.flush
    split; omega
    split
    · show d.ops + 1 ≤ _; omega
    · show d.ops + 1 ≤ _; omega
  split
  · unfold Dv.arm; split
    · show d.ops ≤ _; omega
    · omega
  split
  · show d.ops ≤ _; omega
  split
  · show d.ops ≤ _; omega
  omega
end Go.Proofs.Ytocengdojdeiiaa
