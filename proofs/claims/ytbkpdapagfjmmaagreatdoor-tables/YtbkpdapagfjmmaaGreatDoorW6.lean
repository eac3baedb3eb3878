/-
  Walks: a number is appended.
-/
import Derived.Test.YtbkpdapagfjmmaaGreatDoorA5
import Derived.Test.YtbkpdapagfjmmaaGreatDoorM1
import Derived.Lib.AppendStr
namespace Go.Proofs.YtbkpdapagfjmmaaGreatDoor
open Go.RowKit

theorem info_u8 : (Tryz.prog.info? 5).map (fun i => (i.zero, i.size, i.bytes)) = some (some (.int .u8 0), 1, 1) := by kernel_rfl

def bytesV (l : List UInt8) : List Value := l.map fun c => Value.int .u8 c.toNat

theorem byte_or (k : Nat) (hk : k ≤ 268435455) : bits .or .i64 (bits .and .i64 (k : Int) 127) 128 % 256 = ((UInt8.ofNat (128 + k % 128)).toNat : Int) := by
  have h1 : bits .and .i64 (k : Int) 127 = ((k % 128 : Nat) : Int) := by
    have := bits_mask .i64 62 (by decide) wraps_i64 7 (by decide) (k : Int) (by omega) (by omega)
    simpa using this
  have h2 := or_high 7 (k % 128) 128 (by omega) (by omega) (by omega) (by omega)
  rw [h1, show (128 : Int) = ((128 : Nat) : Int) from rfl, h2]
  simp
  omega

theorem byte_small (k : Nat) (hk : k < 128) : (k : Int) = ((UInt8.ofNat k).toNat : Int) := by
  simp
  omega

theorem bytesV_snoc (ys : List UInt8) (c : UInt8) (x : Int) (h : x = (c.toNat : Int)) : bytesV ys ++ [Value.int .u8 x] = bytesV (ys ++ [c]) := by
  rw [h]; simp [bytesV]

set_option maxHeartbeats 400000 in
set_option maxRecDepth 100000 in
theorem appendNumber_T (B : Nat) (v : Value) (xs : List UInt8) (n : Nat) (h : n ≤ 268435455) (w : World) (hB : B ≤ w.heap.size) (ho : w.ownsRow B 5 1 v xs.length (bytesV xs)) (hl : xs.length ≤ 2 ^ 45) :
    Calls Tryz.prog 72 #[v, .int .i64 n] w fun e w' => ∃ v', e = .returned v' ∧ w'.ownsRow B 5 1 v' (xs ++ Lk.wire n).length (bytesV (xs ++ Lk.wire n)) ∧ Below B w w' ∧ KeepsT 5 w w' := by
  obtain ⟨i, hi, hz0, hz1, hz2⟩ := info_parts info_u8
  go_enter Tryz.func72, Tryz.ntmps72
  go_wp2_with fail
  go_loopw [0, 1] (fun b m wr => ∃ (k : Nat) (ys : List UInt8), m = .int .i64 k ∧ k ≤ 268435455 ∧ Hid (ys ++ Lk.wire k = xs ++ Lk.wire n) ∧ B ≤ wr.heap.size ∧ wr.ownsRow B 5 1 b ys.length (bytesV ys) ∧ Below B w wr ∧ KeepsT 5 w wr) (fun _ m _ => (intOf m).toNat)
  case atStart => exact ⟨n, xs, rfl, h, rfl, hB, ho, Below.refl _ _, KeepsT.refl _ _⟩
  case round =>
    obtain ⟨k, ys, rfl, hk, HY, hB', hown, hbel, hkt⟩ := hrel
    have hys : ys.length ≤ 2 ^ 45 + 4 := by
      have e := congrArg List.length (unhide HY)
      have := Lk.wire_len_le4 n h
      simp only [List.length_append] at e
      omega
    by_cases hlt : 127 < k
    · have hlt' : 127 < (k : Int) := by omega
      go_wp2_with (at_builtin; refine wpList_append_own _ rfl _ _ 78 rfl B 5 i _ 1 1 Tryz.underlying78 hi hz0 hz1 hz2 rfl (by decide) _ ys.length (bytesV ys) rfl (hown.alloc _) ⟨wr.heap.size, 0, none⟩ 1 1 [_] rfl rfl (cell_one_new _ _ _) ?h1 ?h63 ?hby ?hba ?_)
      case h1 => simp [Value.oneCell']
      case h63 => unfold maxLen; omega
      case hby => omega
      case hba => first | omega | (simp; omega)
      intro v' w' ho' hg' hn'
      rw [bytesV_snoc ys _ _ (byte_or k hk)] at ho'
      go_wp2_with fail
      go_roundw
      case rel =>
        refine ⟨k / 128, ys ++ [UInt8.ofNat (128 + k % 128)], by first | go_num | (simp; omega), by omega, ?_, ?_, ?_, ?_, (hkt.alloc _).grown hg' (hown.alloc _)⟩
        · rw [← unhide HY, Lk.wire_big k (by omega)]; simp [Hid]
        · have := hg'.size; simp at this; omega
        · simpa using ho'
        · exact (hbel.alloc hB' _).grown hg' (by simp; omega) (fun k hk => (hown.lt k hk).1)
      case measure => simp [intOf]; omega
    · have hlt' : ¬ 127 < (k : Int) := by omega
      go_wp2_with (at_builtin; refine wpList_append_own _ rfl _ _ 78 rfl B 5 i _ 1 1 Tryz.underlying78 hi hz0 hz1 hz2 rfl (by decide) _ ys.length (bytesV ys) rfl (hown.alloc _) ⟨wr.heap.size, 0, none⟩ 1 1 [_] rfl rfl (cell_one_new _ _ _) ?h1 ?h63 ?hby ?hba ?_)
      case h1 => simp [Value.oneCell']
      case h63 => unfold maxLen; omega
      case hby => omega
      case hba => first | omega | (simp; omega)
      intro v' w' ho' hg' hn'
      have hw : xs ++ Lk.wire n = ys ++ [UInt8.ofNat k] := by rw [← unhide HY, Lk.wire_small k (by omega)]
      rw [bytesV_snoc ys (UInt8.ofNat k) _ (byte_small k (by omega))] at ho'
      have HW := hide hw
      clear hw
      go_wp2_with fail
      go_ret
      refine ⟨_, rfl, ?_, ?_, (hkt.alloc _).grown hg' (hown.alloc _)⟩
      · rw [unhide HW]; simpa using ho'
      · exact (hbel.alloc hB' _).grown hg' (by simp; omega) (fun k hk => (hown.lt k hk).1)

theorem appendNumber_any (B : Nat) (v : Value) (xs : List UInt8) (n : Nat) (h : n ≤ 268435455) (w : World) (hB : B ≤ w.heap.size) (ho : w.ownsRow B 5 1 v xs.length (bytesV xs)) (hl : xs.length ≤ 2 ^ 45) :
    Calls Tryz.prog 72 #[v, .int .i64 n] w fun e w' => ∃ v', e = .returned v' ∧ w'.ownsRow B 5 1 v' (xs ++ Lk.wire n).length (bytesV (xs ++ Lk.wire n)) ∧ Below B w w' :=
  (appendNumber_T B v xs n h w hB ho hl).mono fun _ _ ⟨v', h1, h2, h3, _⟩ => ⟨v', h1, h2, h3⟩

theorem strCells_bytes (s : ByteArray) : Lib.strCells s = bytesV s.data.toList := by
  simp [Lib.strCells, bytesV]

theorem nums_bytes (l : List UInt8) : (strOfNums (l.map fun c => (c.toNat : Int))) = ⟨l.toArray⟩ := by
  unfold strOfNums
  congr 2
  rw [List.map_map]
  have : ((fun n : Int => UInt8.ofNat n.toNat) ∘ fun c : UInt8 => (c.toNat : Int)) = id := by
    funext c; simp
  rw [this, List.map_id]

theorem owned_string {w : World} {B : Nat} {v : Value} {l : List UInt8} (h : w.ownsRow B 5 1 v l.length (bytesV l)) (hne : 0 < l.length) :
    (convert 78 9 v).run Tryz.prog w = .ok (.string ⟨l.toArray⟩) w := by
  rcases h.2 with ⟨_, h0⟩ | ⟨g, cap, cur, rfl, _, hg, hn, hc, hs, ht⟩
  · omega
  · have hI : Is w g 5 cur.toList := by unfold Is; simpa using hg
    have := Is.string (xs := l.map fun c => (c.toNat : Int)) hI (by
      rw [List.map_map]
      show (bytesV l) <+: _
      rw [← ht]
      exact List.take_prefix _ _) cap
    rw [nums_bytes] at this
    simpa using this

end Go.Proofs.YtbkpdapagfjmmaaGreatDoor
