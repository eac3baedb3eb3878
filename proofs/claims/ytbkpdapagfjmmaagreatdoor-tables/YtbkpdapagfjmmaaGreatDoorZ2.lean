/-
  What came in is within reach: strings and lists of strings.
-/
import Derived.Test.YtbkpdapagfjmmaaGreatDoorZ1
import Derived.Test.YtbkpdapagfjmmaaGreatDoorS3
import Derived.SliceStrings
import Derived.SizedLaws
namespace Go.Proofs.YtbkpdapagfjmmaaGreatDoor
open Go.ChangeShapes Go.WideShapes Go.ChangeAt Go.RowKit Go.Deep
open Go.ChangeMaps (open_string shut_string)

theorem bytesStr : Tryz.prog.bytesOf 9 = 16 := by kernel_rfl
theorem cellsSl4 : Tryz.prog.cellsOf 31 = 1 := by kernel_rfl
theorem reach4 : reachBytes = 140737488351232 := rfl
theorem add_plain4 (b off i : Nat) : (⟨b, off, none⟩ : Addr).add i = ⟨b, off + i, none⟩ := by unfold Addr.add; split <;> simp_all
theorem strs_len4 {H : Type} (l : List ByteArray) : (strs (H := H) l).length = l.length := by simp [strs]

theorem weightsAll_in {H : Type} {P : Program} {e : TypeId} : ∀ {l : List (DataW H)} {d : DataW H}, d ∈ l → ∀ n ∈ d.weights P e, n ∈ DataW.weightsAll P e l
  | d' :: r, d, hd, n, hn => by
    simp only [DataW.weightsAll, List.mem_append]
    rcases List.mem_cons.1 hd with rfl | h
    · exact .inl hn
    · exact .inr (weightsAll_in h n hn)

/-- What came in is within reach. -/
def Reach4 {H : Type} (d : DataW H) (t : TypeId) : Prop := ∀ n ∈ d.weights Tryz.prog t, n ≤ reachBytes
theorem reach_each {H : Type} {ts : List TypeId} {ds : List (DataW H)} (h : (DataW.weightsEach Tryz.prog ts ds).all (· ≤ reachBytes) = true) {j : Nat} {t : TypeId} {d : DataW H} (ht : ts[j]? = some t) (hd : ds[j]? = some d) : Reach4 d t :=
  fun n hn => of_decide_eq_true (List.all_eq_true.1 h n (DataW.weights_mem_each ht hd n hn))
theorem Reach4.len {H : Type} {t e : TypeId} {elems spare : List (DataW H)} (h : Reach4 (.slice elems spare) t) (hu : Tryz.prog.underlying t = some (.slice e)) : (elems.length + spare.length) * Tryz.prog.bytesOf e ≤ reachBytes :=
  h _ (by simp [DataW.weights, hu])
theorem Reach4.elem {H : Type} {t e : TypeId} {elems spare : List (DataW H)} {d : DataW H} (h : Reach4 (.slice elems spare) t) (hu : Tryz.prog.underlying t = some (.slice e)) (hd : d ∈ elems) : Reach4 d e :=
  fun n hn => h n (by simp only [DataW.weights, hu, List.mem_cons, List.mem_append]; exact .inr (.inl (weightsAll_in hd n hn)))

/-- A list of strings that was read as data. -/
theorem strs_full {H : Type} {enc : TypeId × Value → H} {w : World} {spare : Nat → Bool} {held : Bool} {fuel : Nat} {cs : List Value} {x : DataW H × List MemPlace}
    (h : DataW.trod enc Tryz.prog w 0 spare held fuel 31 cs = some x) (hr : Reach4 x.1 31) : ∃ sv ls, cs = [sv] ∧ Strs w sv ls ∧ ls.length ≤ 2 ^ 43 := by
  rcases open_strings Tryz.underlying31 Tryz.underlying9 cellsStr h with ⟨rfl, rfl⟩ | ⟨a, len, cap, ss, rfl, _, hlc, _, hsl, rfl, hc, _⟩
  · exact ⟨_, [], rfl, .inl ⟨rfl, _, _, rfl⟩, by simp⟩
  · have hlen : len ≤ ss.length := by rw [hsl]; split <;> omega
    refine ⟨_, ss.take len, rfl, ?_, ?_⟩
    · by_cases h0 : len = 0
      · subst h0
        exact .inl ⟨by simp, _, _, rfl⟩
      · obtain ⟨blk, off, spot⟩ := a
        have e0 := hc 0 (by omega)
        have hsp : spot = none := World.cell?_spot (by simpa [Addr.add] using e0)
        subst hsp
        refine .inr ⟨blk, off, cap, by rw [List.length_take, Nat.min_eq_left hlen], World.block_lt_of_cell? _ _ e0, fun i y hy => ?_⟩
        have hi : i < len := by
          have := (List.getElem?_eq_some_iff.1 hy).1
          rw [List.length_take] at this
          omega
        rw [List.getElem?_take_of_lt hi] at hy
        have := hc i (by omega)
        rw [add_plain4] at this
        rw [this]
        simp [List.getD, hy]
    · have := Reach4.len hr Tryz.underlying31
      rw [bytesStr, strs_len4, reach4] at this
      omega
end Go.Proofs.YtbkpdapagfjmmaaGreatDoor
