import Derived.Test.YtbkpdapagfjmmaaGreatDoorA0
import Derived.Test.YtbkpdapagfjmmaaGreatDoorA1
import Derived.Test.YtbkpdapagfjmmaaGreatDoorProg
import Derived.Laws.BytesArg
import Derived.Deep.RegionWith
import Derived.Lib.AppendStr
import Derived.Lib.BufferWrite
import Derived.Lib.UnsafeStr
import Derived.Laws.MakeOwn
set_option linter.unusedVariables false
set_option maxRecDepth 100000
set_option maxHeartbeats 16000000
namespace Go.Proofs.YtbkpdapagfjmmaaGreatDoor
open Go.RowKit
theorem af (s : ByteArray) : s.size = s.data.toList.length := Array.length_toList.symm
theorem drop_cons (s : ByteArray) (q : Nat) (h : q < s.size) : s.data.toList.drop q = s[q] :: s.data.toList.drop (q + 1) := by
 rw [List.drop_eq_getElem_cons (by simpa using h)]; rfl
theorem drop_end (s : ByteArray) (q : Nat) (h : s.size <= q) : s.data.toList.drop q = [] := by
 rw [List.drop_eq_nil_iff]; simpa using h
theorem kZ (n : Int) (h0 : 0 <= n) (h1 : n < 2 ^ 62) : IntKind.i64.wrap n = n := by rw [IntKind.wrap_i64]; omega
theorem VY (c : Nat) (h : c < 256) : bits .and .u8 (c : Int) 127 = ((c % 128 : Nat) : Int) := by
 have := bits_mask .u8 8 (by decide) wraps_u8 7 (by decide) (c : Int) (by omega) (by omega)
 simpa using this
theorem IU (i a b : Nat) (hi : i <= 40) (ha : a < 2 ^ i) (hb : b % 2 ^ i = 0) (hb2 : b < 2 ^ 62) : bits .or .i64 (a : Int) (b : Int) = ((a + b : Nat) : Int) := by
 have hp : 2 ^ i <= 2 ^ 40 := Nat.pow_le_pow_right (by decide) hi
 rw [(bits_nat .i64 62 (by decide) kZ a b (by omega) hb2).2]
 have hq : b = 2 ^ i * (b / 2 ^ i) := by
  have := Nat.div_add_mod b (2 ^ i)
  omega
 rw [Nat.or_comm, hq, <- Nat.two_pow_add_eq_or_of_lt ha (b / 2 ^ i), Nat.add_comm]
theorem wrap64_small (n : Nat) (h : n < 2 ^ 62) : wrap64 (n : Int) = (n : Int) := IntWalk.wrap64_in _ ⟨by omega, by omega⟩
theorem xH (t acc c : Nat) (ht : t < 4) (hacc : acc < 128 ^ t) (hc : c < 256) :
 bits .or .i64 (acc : Int) (wrap64 (wrap64 (bits .and .u8 (c : Int) 127) * 2 ^ (7 * t))) = ((acc + c % 128 * 128 ^ t : Nat) : Int) := by
 rw [VY c hc, wrap64_small _ (by omega)]
 have e : ((c % 128 : Nat) : Int) * 2 ^ (7 * t) = ((c % 128 * 128 ^ t : Nat) : Int) := by
  rcases (by omega : t = 0 ∨ t = 1 ∨ t = 2 ∨ t = 3) with rfl | rfl | rfl | rfl <;> simp
 have hb : c % 128 * 128 ^ t < 2 ^ 62 := by
  rcases (by omega : t = 0 ∨ t = 1 ∨ t = 2 ∨ t = 3) with rfl | rfl | rfl | rfl <;> omega
 rw [e, wrap64_small _ hb]
 refine IU (7 * t) acc _ (by omega) ?_ ?_ hb
 . rcases (by omega : t = 0 ∨ t = 1 ∨ t = 2 ∨ t = 3) with rfl | rfl | rfl | rfl <;> simpa using hacc
 . rcases (by omega : t = 0 ∨ t = 1 ∨ t = 2 ∨ t = 3) with rfl | rfl | rfl | rfl <;> omega
theorem rP (c : Nat) (hc : c < 256) : bits .or .i64 0 (wrap64 (wrap64 (bits .and .u8 (c : Int) 127))) = ((0 + c % 128 * 128 ^ 0 : Nat) : Int) := by
 have := xH 0 0 c (by omega) (by omega) hc
 simpa using this
def dK (s : ByteArray) (p t q acc : Nat) : Prop := q = p + t ∧ t <= 4 ∧ q <= s.size ∧ acc < 128 ^ t ∧ Lk.rd t acc (s.data.toList.drop q) = Lk.rd 0 0 (s.data.toList.drop p)
theorem dK.start (s : ByteArray) (p : Nat) (hp : p <= s.size) : dK s p 0 p 0 := ⟨rfl, by omega, hp, by omega, rfl⟩
theorem ni (c : UInt8) : c.toNat < 256 := c.toNat_lt
theorem byte_zero {c : UInt8} (h : c.toNat = 0) : c = 0 := UInt8.toNat_inj.1 (by simpa using h)
theorem dK.next {s : ByteArray} {p t q acc : Nat} (h : dK s p t q acc) (hlt : q < s.size) (ht : t < 4) (h0 : ¬ (0 < t ∧ s[q].toNat = 0)) (hc : 127 < s[q].toNat) :
 dK s p (t + 1) (q + 1) (acc + s[q].toNat % 128 * 128 ^ t) := by
 obtain ⟨rfl, h1, h2, h3, h4⟩ := h
 refine ⟨by omega, by omega, by omega, ?_, ?_⟩
 . rcases (by omega : t = 0 ∨ t = 1 ∨ t = 2 ∨ t = 3) with rfl | rfl | rfl | rfl <;> omega
 . rw [<- h4, drop_cons s _ hlt, Lk.OW _ _ _ _ (by rintro (h | ⟨h, h'⟩) <;> first | omega | exact h0 ⟨h, by rw [h']; rfl⟩) (by omega)]
theorem dK.short {s : ByteArray} {p t q acc : Nat} {r : Lk.Rd} (h : dK s p t q acc) (hr : Hid (Lk.rd 0 0 (s.data.toList.drop p) = r)) (hlt : ¬ q < s.size) : r.val = 0 ∧ r.good = false ∧ r.at p s.size = q := by
 obtain ⟨rfl, h1, h2, h3, h4⟩ := h
 have : r = .short := by rw [<- uh hr, <- h4, drop_end s _ (by omega), Lk.Og]
 subst this
 exact ⟨rfl, rfl, by show s.size = _; omega⟩
theorem dK.bad {s : ByteArray} {p t q acc : Nat} {r : Lk.Rd} (h : dK s p t q acc) (hr : Hid (Lk.rd 0 0 (s.data.toList.drop p) = r)) (hlt : q < s.size) (hb : t = 4 ∨ (0 < t ∧ s[q].toNat = 0)) : r.val = 0 ∧ r.good = false ∧ r.at p s.size = q := by
 obtain ⟨rfl, h1, h2, h3, h4⟩ := h
 have : r = .bad t := by
  rw [<- uh hr, <- h4, drop_cons s _ hlt, Lk.Oh _ _ _ _ (hb.imp id fun ⟨a, b⟩ => ⟨a, byte_zero b⟩)]
 subst this
 exact ⟨rfl, rfl, rfl⟩
theorem dK.last {s : ByteArray} {p t q acc : Nat} {r : Lk.Rd} (h : dK s p t q acc) (hr : Hid (Lk.rd 0 0 (s.data.toList.drop p) = r)) (hlt : q < s.size) (ht : t < 4) (h0 : ¬ (0 < t ∧ s[q].toNat = 0)) (hc : s[q].toNat <= 127) :
 r.val = ((acc + s[q].toNat % 128 * 128 ^ t : Nat) : Int) ∧ r.good = true ∧ r.at p s.size = q + 1 := by
 obtain ⟨rfl, h1, h2, h3, h4⟩ := h
 have : r = .ok (acc + s[p + t].toNat % 128 * 128 ^ t) (t + 1) := by
  rw [<- uh hr, <- h4, drop_cons s _ hlt, Lk.IA _ _ _ _ (by rintro (h | ⟨h, h'⟩) <;> first | omega | exact h0 ⟨h, by rw [h']; rfl⟩) (by omega)]
 subst this
 exact ⟨rfl, rfl, rfl⟩
theorem ny {r : Lk.Rd} {a : Int} {b : Bool} (h : r.val = a) (h' : r.good = b) : Ending.returned (.tuple #[.int .i64 a, .bool b]) = .returned (.tuple #[.int .i64 r.val, .bool r.good]) := by rw [h, h']
theorem dI (s : ByteArray) (i j : Nat) : (s.extract i j).data.toList = (s.data.toList.drop i).take (j - i) := by
 rw [ByteArray.data_extract, Array.toList_extract]
theorem own : ownKnob Tryz.prog.godebug = none := by kernel_rfl
theorem Is.string {w : World} {g : Nat} {cs : List Value} {xs : List Int} (h : Is w g 5 cs) (hp : (xs.map (Value.int .u8)) <+: cs) (cap : Nat) :
 (convert 78 9 (.slice (some ⟨g, 0, none⟩) xs.length cap)).run Tryz.prog w = .ok (.string (strOfNums xs)) w := by
 refine run_convert_bytes_arg w 78 5 Tryz.underlying78 Tryz.underlying5 g 0 xs.length cap xs rfl ?_ 9 Tryz.underlying9
 intro i hi
 rw [Nat.zero_add, h.cell i]
 obtain ⟨t, rfl⟩ := hp
 rw [List.getElem?_append_left (by simpa using hi)]
 simp [hi]
theorem oW (w : World) (x : Int) : (convert 78 9 (.slice (some ⟨w.heap.size, 0, none⟩) 1 1)).run Tryz.prog (w.alloc (.cells #[.int .u8 x] 5)) = .ok (.string ⟨#[UInt8.ofNat x.toNat]⟩) (w.alloc (.cells #[.int .u8 x] 5)) :=
 Is.string (xs := [x]) (Is.new w 5 [.int .u8 x]) (List.prefix_refl _) 1
theorem TK {W w1 : World} (hb : Below W.heap.size W w1) : (∀ b o, b < W.heap.size -> w1.cell? ⟨b, o, none⟩ = W.cell? ⟨b, o, none⟩) ∧ (∀ b o, b < W.heap.size -> w1.frozen? ⟨b, o, none⟩ = W.frozen? ⟨b, o, none⟩) :=
 ⟨fun b o h => hb.cell (p := ⟨b, o, none⟩) h, fun b o h => hb.frozen (p := ⟨b, o, none⟩) h⟩
theorem dY {a b : ByteArray} (h : a = b) : Ending.returned (.string a) = .returned (.string b) := by rw [h]
theorem rQ (w : World) (g : Nat) (x : Int) (h : w.cell? ⟨g, 0, none⟩ = some (.int .u8 x)) :
 (convert 78 9 (.slice (some ⟨g, 0, none⟩) 1 1)).run Tryz.prog w = .ok (.string ⟨#[UInt8.ofNat x.toNat]⟩) w := by
 refine run_convert_bytes_arg w 78 5 Tryz.underlying78 Tryz.underlying5 g 0 1 1 [x] rfl ?_ 9 Tryz.underlying9
 intro i hi
 obtain rfl : i = 0 := by omega
 simpa using h
theorem BQ : (Tryz.prog.info? 5).map (fun i => (i.zero, i.size, i.bytes)) = some (some (.int .u8 0), 1, 1) := by kernel_rfl
def bytesV (l : List UInt8) : List Value := l.map fun c => Value.int .u8 c.toNat
theorem O3 (k : Nat) (hk : k <= 268435455) : bits .or .i64 (bits .and .i64 (k : Int) 127) 128 % 256 = ((UInt8.ofNat (128 + k % 128)).toNat : Int) := by
 have h1 : bits .and .i64 (k : Int) 127 = ((k % 128 : Nat) : Int) := by
  have := bits_mask .i64 62 (by decide) kZ 7 (by decide) (k : Int) (by omega) (by omega)
  simpa using this
 have h2 := IU 7 (k % 128) 128 (by omega) (by omega) (by omega) (by omega)
 rw [h1, show (128 : Int) = ((128 : Nat) : Int) from rfl, h2]
 simp
 omega
theorem oZ (k : Nat) (hk : k < 128) : (k : Int) = ((UInt8.ofNat k).toNat : Int) := by
 simp
 omega
theorem nz (ys : List UInt8) (c : UInt8) (x : Int) (h : x = (c.toNat : Int)) : bytesV ys ++ [Value.int .u8 x] = bytesV (ys ++ [c]) := by
 rw [h]; simp [bytesV]
theorem fP (B : Nat) (v : Value) (xs : List UInt8) (n : Nat) (h : n <= 268435455) (w : World) (hB : B <= w.heap.size) (ho : w.ownsRow B 5 1 v xs.length (bytesV xs)) (hl : xs.length <= 2 ^ 45) :
 Calls Tryz.prog 72 #[v, .int .i64 n] w fun e w' => ∃ v', e = .returned v' ∧ w'.ownsRow B 5 1 v' (xs ++ Lk.wire n).length (bytesV (xs ++ Lk.wire n)) ∧ Below B w w' ∧ bZ 5 w w' := by
 obtain ⟨i, hi, hz0, hz1, hz2⟩ := info_parts BQ
 go_enter Tryz.func72, Tryz.ntmps72
 go_wp2_with fail
 go_loopw [0, 1] (fun b m wr => ∃ (k : Nat) (ys : List UInt8), m = .int .i64 k ∧ k <= 268435455 ∧ Hid (ys ++ Lk.wire k = xs ++ Lk.wire n) ∧ B <= wr.heap.size ∧ wr.ownsRow B 5 1 b ys.length (bytesV ys) ∧ Below B w wr ∧ bZ 5 w wr) (fun _ m _ => (intOf m).toNat)
 case atStart => exact ⟨n, xs, rfl, h, rfl, hB, ho, Below.refl _ _, bZ.refl _ _⟩
 case round =>
  obtain ⟨k, ys, rfl, hk, HY, hB', hown, hbel, hkt⟩ := hrel
  have hys : ys.length <= 2 ^ 45 + 4 := by
   have e := congrArg List.length (uh HY)
   have := Lk.au n h
   simp only [List.length_append] at e
   omega
  by_cases hlt : 127 < k
  . have hlt' : 127 < (k : Int) := by omega
    go_wp2_with (at_builtin; refine wpList_append_own _ rfl _ _ 78 rfl B 5 i _ 1 1 Tryz.underlying78 hi hz0 hz1 hz2 rfl (by decide) _ ys.length (bytesV ys) rfl (hown.alloc _) ⟨wr.heap.size, 0, none⟩ 1 1 [_] rfl rfl (cell_one_new _ _ _) ?h1 ?h63 ?hby ?hba ?_)
    case h1 => simp [Value.oneCell']
    case h63 => unfold maxLen; omega
    case hby => omega
    case hba => first | omega | (simp; omega)
    intro v' w' ho' hg' hn'
    rw [nz ys _ _ (O3 k hk)] at ho'
    go_wp2_with fail
    go_roundw
    case rel =>
     refine ⟨k / 128, ys ++ [UInt8.ofNat (128 + k % 128)], by first | go_num | (simp; omega), by omega, ?_, ?_, ?_, ?_, (hkt.alloc _).grown hg' (hown.alloc _)⟩
     . rw [<- uh HY, Lk.iG k (by omega)]; simp [Hid]
     . have := hg'.size; simp at this; omega
     . simpa using ho'
     . exact (hbel.alloc hB' _).grown hg' (by simp; omega) (fun k hk => (hown.lt k hk).1)
    case measure => simp [intOf]; omega
  . have hlt' : ¬ 127 < (k : Int) := by omega
    go_wp2_with (at_builtin; refine wpList_append_own _ rfl _ _ 78 rfl B 5 i _ 1 1 Tryz.underlying78 hi hz0 hz1 hz2 rfl (by decide) _ ys.length (bytesV ys) rfl (hown.alloc _) ⟨wr.heap.size, 0, none⟩ 1 1 [_] rfl rfl (cell_one_new _ _ _) ?h1 ?h63 ?hby ?hba ?_)
    case h1 => simp [Value.oneCell']
    case h63 => unfold maxLen; omega
    case hby => omega
    case hba => first | omega | (simp; omega)
    intro v' w' ho' hg' hn'
    have hw : xs ++ Lk.wire n = ys ++ [UInt8.ofNat k] := by rw [<- uh HY, Lk.gu k (by omega)]
    rw [nz ys (UInt8.ofNat k) _ (oZ k (by omega))] at ho'
    have HW := hide hw
    clear hw
    go_wp2_with fail
    go_ret
    refine ⟨_, rfl, ?_, ?_, (hkt.alloc _).grown hg' (hown.alloc _)⟩
    . rw [uh HW]; simpa using ho'
    . exact (hbel.alloc hB' _).grown hg' (by simp; omega) (fun k hk => (hown.lt k hk).1)
theorem mJ (s : ByteArray) : Lib.strCells s = bytesV s.data.toList := by
 simp [Lib.strCells, bytesV]
theorem FP (l : List UInt8) : (strOfNums (l.map fun c => (c.toNat : Int))) = ⟨l.toArray⟩ := by
 unfold strOfNums
 congr 2
 rw [List.map_map]
 have : ((fun n : Int => UInt8.ofNat n.toNat) ∘ fun c : UInt8 => (c.toNat : Int)) = id := by
  funext c; simp
 rw [this, List.map_id]
theorem jE {w : World} {B : Nat} {v : Value} {l : List UInt8} (h : w.ownsRow B 5 1 v l.length (bytesV l)) (hne : 0 < l.length) :
 (convert 78 9 v).run Tryz.prog w = .ok (.string ⟨l.toArray⟩) w := by
 rcases h.2 with ⟨_, h0⟩ | ⟨g, cap, cur, rfl, _, hg, hn, hc, hs, ht⟩
 . omega
 . have hI : Is w g 5 cur.toList := by unfold Is; simpa using hg
   have := Is.string (xs := l.map fun c => (c.toNat : Int)) hI (by
    rw [List.map_map]
    show (bytesV l) <+: _
    rw [<- ht]
    exact List.take_prefix _ _) cap
   rw [FP] at this
   simpa using this
theorem empty_of (s : ByteArray) (h : s.size = 0) : s = ⟨#[]⟩ := ByteArray.ext (Array.eq_empty_of_size_eq_zero h)
theorem FW (s : ByteArray) (h : 0 < s.size) : s.toList.isEmpty = false := by
 rw [ByteArray.toList_eq]
 rw [af] at h
 cases e : s.data.toList with
 | nil => rw [e] at h; simp at h
 | cons x t => rfl
theorem O8 : (Tryz.prog.info? 5).map (fun i => (i.zero, i.size, i.bytes)) = some (some (.int .u8 0), 1, 1) := by kernel_rfl
theorem Q5 : Tryz.prog.cellsOf 5 = 1 := by kernel_rfl
theorem xM (s : ByteArray) (w : World) (h : s.size <= 1000) :
 Calls Tryz.prog 120 #[.string s] w fun e w' => e = .returned (.string s) ∧ Below w.heap.size w w' := by
 by_cases h0 : s.size = 0
 . obtain rfl : s = ⟨#[]⟩ := ByteArray.ext (Array.eq_empty_of_size_eq_zero h0)
   go_enter Tryz.func120, Tryz.ntmps120
   go_wp2
   go_ret
   exact ⟨rfl, Below.refl _ _⟩
 have hz : ((s.size : Int) == 0) = false := by rw [beq_eq_false_iff_ne]; omega
 obtain ⟨i, hi, hi0, hi1, hi2⟩ := info_parts O8
 generalize hM : madeCells (Value.int .u8 0).cells (((s.size : Nat) : Int).toNat * i.size) = M
 have hMs : M.size = s.size := by rw [<- hM, size_madeCells, hi1]; simp
 have V7 : ∀ W : World, (Instr.makeSlice 78 (.int .i64 (s.size : Int)) (.int .i64 (s.size : Int))).run Tryz.prog W = .ok (.slice (some ⟨W.heap.size, 0, none⟩) s.size s.size) (W.alloc (.cells M 5)) := by
  intro W
  have e := run_make (P := Tryz.prog) W 78 5 i (.int .u8 0) Tryz.underlying78 hi hi0 .i64 .i64 (s.size : Int) (s.size : Int) (by omega) (by omega) (by rw [hi2]; omega) (by omega)
  rw [hM] at e
  simpa using e
 have hg : (w.alloc (.cells M 5)).heap[w.heap.size]? = some (.cells M 5 (0, 0)) := heap_alloc_new w _
 have hcopy := Lib.run_copy_row_string (P := Tryz.prog) (w.alloc (.cells M 5)) 78 9 3 5 w.heap.size 0 s.size s.size s M 5 Tryz.underlying78 (by rw [hi]; simp [hi1]) hg (Nat.le_refl _) (by omega)
 have hrow : (M.toList.take 0 ++ Lib.byteCells s.data.toList ++ M.toList.drop (0 + s.size)) = Lib.byteCells s.data.toList := by
  rw [List.take_zero, List.nil_append, List.drop_of_length_le (by rw [Array.length_toList]; omega), List.append_nil]
 rw [hrow] at hcopy
 have hg2 : ((w.alloc (.cells M 5)).setRow w.heap.size (Lib.byteCells s.data.toList).toArray).heap[w.heap.size]? = some (.cells (Lib.byteCells s.data.toList).toArray 5 (0, 0)) := setRow_heap _ _ M _ 5 (0, 0) hg
 have hb : Below w.heap.size w ((w.alloc (.cells M 5)).setRow w.heap.size (Lib.byteCells s.data.toList).toArray) :=
  ((Below.refl _ _).alloc (Nat.le_refl _) _).trans ⟨rfl, rfl, rfl, by simp, fun k hk => setRow_other _ _ _ _ (by omega)⟩
 clear hM hg hrow
 have hIs : Is ((w.alloc (.cells M 5)).setRow w.heap.size (Lib.byteCells s.data.toList).toArray) w.heap.size 5 (Lib.byteCells s.data.toList) := hg2
 generalize hW : (w.alloc (.cells M 5)).setRow w.heap.size (Lib.byteCells s.data.toList).toArray = W at *
 have hstr := Lib.run_unsafeString_row (P := Tryz.prog) W 266 3 9 5 Tryz.underlying266 Q5 w.heap.size (Lib.byteCells s.data.toList).length (by unfold World.shape?; rw [hg2]; simp) s.data.toList
  (by intro e; have := congrArg List.length e; simp at this; exact h0 (by rw [ByteArray.size, this]; rfl)) (by rw [Lib.byteCells_length]; exact Nat.le_refl _) (by rw [Array.length_toList]; show s.size <= _; omega)
  (by
   intro j x hx
   have hplain : (⟨w.heap.size, 0, none⟩ : Addr).add j = ⟨w.heap.size, j, none⟩ := by unfold Addr.add; split <;> simp_all
   rw [hplain, hIs.cell j]
   simp [Lib.byteCells, hx])
 have hlen : s.data.toList.length = s.size := Array.length_toList
 rw [hlen] at hstr
 have hfin : Below w.heap.size w (W.freeze ⟨w.heap.size, 0, none⟩ s.size) := Lib.below_freeze hb (Nat.le_refl _) _
 clear hg2 hIs hW hlen hb
 go_enter Tryz.func120, Tryz.ntmps120
 go_wp2
 go_ret
 exact ⟨rfl, hfin⟩
theorem clone_any (s : ByteArray) (w : World) (h : s.size <= 1000) :
 Calls Tryz.prog 70 #[.string s] w fun e w' => e = .returned (.string s) ∧ Below w.heap.size w w' := by
 go_enter Tryz.func70, Tryz.ntmps70
 go_wp2_with fail
 refine (xM s _ h).mono ?_
 rintro e w1 ⟨rfl, hb⟩
 go_wp2_with fail
 go_ret
 exact ⟨rfl, hb⟩
end Go.Proofs.YtbkpdapagfjmmaaGreatDoor
