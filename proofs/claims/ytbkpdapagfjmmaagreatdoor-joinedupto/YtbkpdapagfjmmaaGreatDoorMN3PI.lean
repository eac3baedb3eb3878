import Derived.Test.YtbkpdapagfjmmaaGreatDoorMPHT3
import Derived.Test.YtbkpdapagfjmmaaGreatDoorMT4T5
import Derived.Test.YtbkpdapagfjmmaaGreatDoorMP3W3
import Derived.Test.YtbkpdapagfjmmaaGreatDoorProg
import Derived.Lib.BufferWrite
import Derived.Lib.UnsafeStr
import Derived.Laws.MakeOwn
/-
  Memory: an end of the program's.
-/
namespace Go.Proofs.YtbkpdapagfjmmaaGreatDoor
open Go.RowKit

/-- The cells of an end. -/
structure EC where
  txt : ByteArray
  fault : Int
  w1 : Value
  oroom : Int
  ov : Value
  win : Int
  next : Int
  sent : Int
  ocr : Int
  sv : Value
  w2 : Value
  iroom : Int
  iv : Value
  win2 : Int
  inext : Int
  icr : Int
  mp : Value
  rs : List Nat
  bs : Bool
  bc : Bool
def EC.cells (c : EC) : List Value := [.string c.txt, .int .i64 0, .int .i64 c.fault, c.w1, .int .i64 c.oroom, c.ov, .int .i64 c.win, .int .i64 c.next, .int .i64 c.sent, .int .i64 c.ocr, c.sv, c.w2, .int .i64 c.iroom, c.iv, .int .i64 c.win2, .int .i64 c.inext, .int .i64 c.icr, c.mp, firstV c.rs, lastV c.rs, .bool c.bs, .bool c.bc]
/-- An end's block, and its row. -/
structure Rw (w : World) (b : Nat) (c : EC) (fs : List Lk.Fr) : Prop where
  blk : Is w b 101 c.cells
  row : Chain w (firstV c.rs) (lastV c.rs) fs c.rs
theorem Rw.lt {w : World} {b : Nat} {c : EC} {fs : List Lk.Fr} (h : Rw w b c fs) : b < w.heap.size := h.blk.lt
theorem Rw.only {S : Nat → Prop} {w w' : World} {b : Nat} {c : EC} {fs : List Lk.Fr} (h : Rw w b c fs) (k : Only S w w') (hb : ¬ S b) (hr : ∀ r ∈ c.rs, ¬ S r) : Rw w' b c fs := ⟨h.blk.only k hb, h.row.only k hr⟩
theorem Rw.notIn {w : World} {b : Nat} {c : EC} {fs : List Lk.Fr} (h : Rw w b c fs) : b ∉ c.rs := fun hm => by
  obtain ⟨_, _, hx⟩ := h.row.links.is b hm
  exact h.blk.ne hx (Nat.ne_of_beq_eq_false rfl) rfl
/-- A cell of the end's own is written. -/
theorem Rw.cell {w w' : World} {b : Nat} {c c' : EC} {fs : List Lk.Fr} (h : Rw w b c fs) (hI : Is w' b 101 c'.cells) (k : Only (· = b) w w') (hr : c'.rs = c.rs) : Rw w' b c' fs :=
  ⟨hI, by rw [hr]; exact h.row.only k (fun r hm e => h.notIn (e ▸ hm))⟩

def putV (b : Nat) : Value := .func (.func 45) #[.pointer (some ⟨b, 18, none⟩)] #[]
theorem putEnd_any (b : Nat) (c : EC) (fs : List Lk.Fr) (f : Lk.Fr) (w : World) (h : Rw w b c fs) :
    Calls Tryz.prog 45 #[.pointer (some ⟨b, 18, none⟩), frA f] w fun e w' => e = .returned (.tuple #[]) ∧ ∃ n, w.heap.size ≤ n ∧ Rw w' b { c with rs := c.rs ++ [n] } (fs ++ [f]) ∧ Only (fun i => i = b ∨ i ∈ c.rs) w w' := by
  refine (putRow_any b 18 101 c.cells f fs c.rs w h.blk (Nat.ne_of_beq_eq_false rfl) rfl rfl h.row).mono ?_
  rintro e w' ⟨rfl, n, hn, hI, hC, hO⟩
  exact ⟨rfl, n, hn, ⟨hI, hC⟩, hO⟩

/-! ### an end -/
/-- What an end has in memory beside its numbers: the tables' rows, the streams' row and blocks, the map, the row's frames and blocks. -/
structure PD where
  ov : Value
  iv : Value
  sv : Value
  ps : List Nat
  rs : List Nat
  mb : Nat
  mn : Nat
  ins : Int → Option Nat
  fs : List Lk.Fr
def upOwn (e : Lk.En) : List Lk.Ow := e.own.filter fun o => !o.done
def nextOth (e : Lk.En) : Nat := 2 * e.oth.length + 2 - e.side
def ecOf (e : Lk.En) (d : PD) : EC := ⟨bs e.rest, (e.down : Int), weighV, (100 : Int) - Lk.weights e.out, d.ov, e.win, e.nextId, e.turn, e.all, d.sv, weighV, (100 : Int) - Lk.weights e.inn, d.iv, e.win, nextOth e, e.room, .map (some d.mb), d.rs, e.byeS, e.byeC⟩
def foot (b : Nat) (d : PD) (i : Nat) : Prop := i = b ∨ d.ov.ownBlock = some i ∨ d.iv.ownBlock = some i ∨ d.sv.ownBlock = some i ∨ i ∈ d.ps ∨ i ∈ d.rs ∨ i = d.mb ∨ ∃ k, d.ins k = some i
def inV (cr held : Int) (cut ended : Bool) : List Value := [.int .i64 cr, .int .i64 held, .bool cut, .bool ended]
/-- A stream of the other end, in memory. -/
def OthIs (w : World) (ins : Int → Option Nat) (o : Lk.Ot) : Prop := match ins o.id with
  | some p => (o.opn || o.drp || decide (0 < o.held)) = true ∧ ∃ (cr : Int) (cut : Bool), Is w p 227 (inV cr o.held cut (!(o.opn || o.drp))) ∧ ((o.opn || o.drp) = true → cr = o.cr ∧ cut = o.drp)
  | none => (o.opn || o.drp || decide (0 < o.held)) = false
structure Live (w : World) (b : Nat) (e : Lk.En) (d : PD) : Prop where
  rw : Rw w b (ecOf e d) d.fs
  rowe : e.row = d.fs.map Lk.Fr.pack
  good : ∀ f ∈ d.fs, Lk.Good f.k f.st f.d
  out : w.ownsRow 0 112 2 d.ov e.out.length (hdsV e.out)
  inn : w.ownsRow 0 112 2 d.iv e.inn.length (hdsV e.inn)
  sl : w.ownsRow 0 169 1 d.sv d.ps.length (d.ps.map ptr)
  outs : Outs w (upOwn e) d.ps
  psn : d.ps.Nodup
  ps4 : d.ps.length ≤ 4
  map : MapIs Tryz.prog 3 w d.mb d.mn d.ins
  mn : d.mn ≤ e.oth.length
  oths : ∀ (i : Nat) (o : Lk.Ot), e.oth[i]? = some o → OthIs w d.ins o
  none : ∀ k : Int, (∀ (i : Nat) (o : Lk.Ot), e.oth[i]? = some o → (o.id : Int) ≠ k) → d.ins k = none
  inj : ∀ (k k' : Int) (p : Nat), d.ins k = some p → d.ins k' = some p → k = k'
  wf : Lk.Wf e
  pos : ∀ i, foot b d i → 0 < i

theorem Live.c2 {w : World} {b : Nat} {e : Lk.En} {d : PD} (h : Live w b e d) (hdn : e.down = 0) : w.cell? ⟨b, 2, .none⟩ = some (.int .i64 0) := by
  have : w.cell? ⟨b, 2, .none⟩ = some (.int .i64 (e.down : Int)) := h.rw.blk.cell 2
  rw [hdn] at this
  exact this
theorem OthIs.some {w : World} {ins : Int → Option Nat} {o : Lk.Ot} (h : OthIs w ins o) {p : Nat} (hp : ins o.id = some p) : (o.opn || o.drp || decide (0 < o.held)) = true ∧ ∃ (cr : Int) (cut : Bool), Is w p 227 (inV cr o.held cut (!(o.opn || o.drp))) ∧ ((o.opn || o.drp) = true → cr = o.cr ∧ cut = o.drp) := by
  unfold OthIs at h
  rw [hp] at h
  exact h
theorem OthIs.none {w : World} {ins : Int → Option Nat} {o : Lk.Ot} (h : OthIs w ins o) (hp : ins o.id = .none) : (o.opn || o.drp || decide (0 < o.held)) = false := by
  unfold OthIs at h
  rw [hp] at h
  exact h
/-- Whatever pointer the map has leads to a stream. -/
theorem Live.inAt {w : World} {b : Nat} {e : Lk.En} {d : PD} (h : Live w b e d) {k : Int} {p : Nat} (hp : d.ins k = some p) : ∃ (i : Nat) (o : Lk.Ot) (cr : Int) (cut : Bool), e.oth[i]? = some o ∧ (o.id : Int) = k ∧ Is w p 227 (inV cr o.held cut (!(o.opn || o.drp))) ∧ ((o.opn || o.drp) = true → cr = o.cr ∧ cut = o.drp) ∧ (o.opn || o.drp || decide (0 < o.held)) = true := by
  by_cases hx : ∃ (i : Nat) (o : Lk.Ot), e.oth[i]? = some o ∧ (o.id : Int) = k
  · obtain ⟨i, o, ho, hk⟩ := hx
    obtain ⟨h1, cr, cut, h2, h3⟩ := (h.oths i o ho).some (by rw [hk]; exact hp)
    exact ⟨i, o, cr, cut, ho, hk, h2, h3, h1⟩
  · have := h.none k (fun i o ho hk => hx ⟨i, o, ho, hk⟩)
    rw [this] at hp
    cases hp
theorem OthIs.only {S : Nat → Prop} {w w' : World} {ins : Int → Option Nat} {o : Lk.Ot} (h : OthIs w ins o) (k : Only S w w') (hn : ∀ p, ins o.id = Option.some p → ¬ S p) : OthIs w' ins o := by
  unfold OthIs at h ⊢
  cases hp : ins o.id with
  | none => rw [hp] at h; exact h
  | some p =>
    rw [hp] at h
    obtain ⟨h1, cr, cut, h2, h3⟩ := h
    exact ⟨h1, cr, cut, h2.only k (hn p hp), h3⟩
theorem Live.lt {w : World} {b : Nat} {e : Lk.En} {d : PD} (h : Live w b e d) : ∀ i, foot b d i → i < w.heap.size := by
  intro i hi
  rcases hi with rfl | hi | hi | hi | hi | hi | rfl | ⟨k, hi⟩
  · exact h.rw.lt
  · exact (h.out.lt i hi).2
  · exact (h.inn.lt i hi).2
  · exact (h.sl.lt i hi).2
  · obtain ⟨o, hI⟩ := h.outs.mem hi; exact hI.lt
  · exact h.rw.row.lt i hi
  · exact h.map.lt
  · obtain ⟨_, _, _, _, _, _, hI, _⟩ := h.inAt hi; exact hI.lt
/-- What is no block of the end's may turn. -/
theorem Live.only {S : Nat → Prop} {w w' : World} {b : Nat} {e : Lk.En} {d : PD} (h : Live w b e d) (k : Only S w w') (hn : ∀ i, foot b d i → ¬ S i) : Live w' b e d :=
  ⟨h.rw.only k (hn b (.inl rfl)) (fun r hr => hn r (.inr (.inr (.inr (.inr (.inr (.inl hr))))))), h.rowe, h.good,
   own_only h.out k (fun i hi => hn i (.inr (.inl hi))), own_only h.inn k (fun i hi => hn i (.inr (.inr (.inl hi)))), own_only h.sl k (fun i hi => hn i (.inr (.inr (.inr (.inl hi))))),
   h.outs.only k (fun p hp => hn p (.inr (.inr (.inr (.inr (.inl hp)))))), h.psn, h.ps4, h.map.only k (hn d.mb (.inr (.inr (.inr (.inr (.inr (.inr (.inl rfl)))))))), h.mn,
   fun i o ho => (h.oths i o ho).only k (fun p hp => hn p (.inr (.inr (.inr (.inr (.inr (.inr (.inr ⟨_, hp⟩)))))))), h.none, h.inj, h.wf, h.pos⟩

/-- Blocks of an end that are two. -/
theorem Live.sepRow {w : World} {b : Nat} {e : Lk.En} {d : PD} (h : Live w b e d) (x : Nat) (hx : x = b ∨ x ∈ d.rs) : d.ov.ownBlock ≠ some x ∧ d.iv.ownBlock ≠ some x ∧ d.sv.ownBlock ≠ some x ∧ x ∉ d.ps ∧ x ≠ d.mb ∧ ∀ k, d.ins k ≠ some x := by
  have hI : (∃ c, Is w x 101 c) ∨ (∃ c, Is w x 167 c) := by
    rcases hx with rfl | hx
    · exact .inl ⟨_, h.rw.blk⟩
    · obtain ⟨_, _, hy⟩ := h.rw.row.links.is x hx; exact .inr ⟨_, hy⟩
  refine ⟨fun e => ?_, fun e => ?_, fun e => ?_, fun hm => ?_, fun e => ?_, fun k hk => ?_⟩
  · rcases hI with ⟨c, hI⟩ | ⟨c, hI⟩ <;> exact own_ne h.out hI (Nat.ne_of_beq_eq_false rfl) e.symm
  · rcases hI with ⟨c, hI⟩ | ⟨c, hI⟩ <;> exact own_ne h.inn hI (Nat.ne_of_beq_eq_false rfl) e.symm
  · rcases hI with ⟨c, hI⟩ | ⟨c, hI⟩ <;> exact own_ne h.sl hI (Nat.ne_of_beq_eq_false rfl) e.symm
  · obtain ⟨o, hy⟩ := h.outs.mem hm
    rcases hI with ⟨c, hI⟩ | ⟨c, hI⟩ <;> exact hI.ne hy (Nat.ne_of_beq_eq_false rfl) rfl
  · rcases hI with ⟨c, hI⟩ | ⟨c, hI⟩ <;> exact h.map.ne hI e.symm
  · obtain ⟨_, _, _, _, _, _, hy, _⟩ := h.inAt hk
    rcases hI with ⟨c, hI⟩ | ⟨c, hI⟩ <;> exact hI.ne hy (Nat.ne_of_beq_eq_false rfl) rfl
/-- Only the end's own cells and its row have turned. -/
theorem Live.rowOp {w w' : World} {b : Nat} {e e' : Lk.En} {d : PD} {c' : EC} {fs' : List Lk.Fr} {rs' : List Nat} (h : Live w b e d) (hR : Rw w' b c' fs') (hO : Only (fun i => i = b ∨ i ∈ d.rs) w w')
    (hc : c' = ecOf e' { d with rs := rs', fs := fs' }) (h1 : e'.own = e.own) (h2 : e'.oth = e.oth) (h3 : e'.out = e.out) (h4 : e'.inn = e.inn) (hrow : e'.row = fs'.map Lk.Fr.pack) (hg : ∀ f ∈ fs', Lk.Good f.k f.st f.d) (hw : Lk.Wf e') (hp : ∀ x ∈ rs', x ∈ d.rs ∨ w.heap.size ≤ x) :
    Live w' b e' { d with rs := rs', fs := fs' } ∧ (∀ i, foot b { d with rs := rs', fs := fs' } i → foot b d i ∨ w.heap.size ≤ i) ∧ Only (foot b d) w w' := by
  have hs := h.sepRow
  have hf : ∀ i, foot b { d with rs := rs', fs := fs' } i → foot b d i ∨ w.heap.size ≤ i := by
    intro i hi
    rcases hi with hi | hi | hi | hi | hi | hi | hi | hi
    · exact .inl (.inl hi)
    · exact .inl (.inr (.inl hi))
    · exact .inl (.inr (.inr (.inl hi)))
    · exact .inl (.inr (.inr (.inr (.inl hi))))
    · exact .inl (.inr (.inr (.inr (.inr (.inl hi)))))
    · exact (hp i hi).imp (fun h => .inr (.inr (.inr (.inr (.inr (.inl h)))))) id
    · exact .inl (.inr (.inr (.inr (.inr (.inr (.inr (.inl hi)))))))
    · exact .inl (.inr (.inr (.inr (.inr (.inr (.inr (.inr hi)))))))
  refine ⟨⟨by rw [← hc]; exact hR, hrow, hg, ?_, ?_, ?_, ?_, h.psn, h.ps4, ?_, by rw [h2]; exact h.mn, ?_, by rw [h2]; exact h.none, h.inj, hw, ?_⟩, hf, hO.mono (fun i hi => hi.imp id (fun h => .inr (.inr (.inr (.inr (.inl h))))))⟩
  · rw [h3]; exact own_only h.out hO (fun i hi hx => (hs i hx).1 hi)
  · rw [h4]; exact own_only h.inn hO (fun i hi hx => (hs i hx).2.1 hi)
  · exact own_only h.sl hO (fun i hi hx => (hs i hx).2.2.1 hi)
  · have : upOwn e' = upOwn e := by unfold upOwn; rw [h1]
    rw [this]
    exact h.outs.only hO (fun p hp hx => (hs p hx).2.2.2.1 hp)
  · exact h.map.only hO (fun hx => (hs _ hx).2.2.2.2.1 rfl)
  · rw [h2]
    exact fun i o ho => (h.oths i o ho).only hO (fun p hp hx => (hs p hx).2.2.2.2.2 _ hp)
  · intro i hi
    rcases hf i hi with h' | h'
    · exact h.pos i h'
    · have := h.pos b (.inl rfl)
      have := h.rw.lt
      omega
end Go.Proofs.YtbkpdapagfjmmaaGreatDoor

/-
  Walks: strings.Clone, at short strings.
-/
namespace Go.Proofs.YtbkpdapagfjmmaaGreatDoor
open Go.RowKit

theorem empty_of (s : ByteArray) (h : s.size = 0) : s = ⟨#[]⟩ := ByteArray.ext (Array.eq_empty_of_size_eq_zero h)
theorem isEmpty_of (s : ByteArray) (h : 0 < s.size) : s.toList.isEmpty = false := by
  rw [ByteArray.toList_eq]
  rw [size_list] at h
  cases e : s.data.toList with
  | nil => rw [e] at h; simp at h
  | cons x t => rfl

theorem u8_info : (Tryz.prog.info? 5).map (fun i => (i.zero, i.size, i.bytes)) = some (some (.int .u8 0), 1, 1) := by kernel_rfl
theorem u8_one : Tryz.prog.cellsOf 5 = 1 := by kernel_rfl

set_option maxHeartbeats 1000000 in
set_option maxRecDepth 100000 in
theorem cloneLite_any (s : ByteArray) (w : World) (h : s.size ≤ 1000) :
    Calls Tryz.prog 120 #[.string s] w fun e w' => e = .returned (.string s) ∧ Below w.heap.size w w' := by
  by_cases h0 : s.size = 0
  · obtain rfl : s = ⟨#[]⟩ := ByteArray.ext (Array.eq_empty_of_size_eq_zero h0)
    go_enter Tryz.func120, Tryz.ntmps120
    go_wp2
    go_ret
    exact ⟨rfl, Below.refl _ _⟩
  have hz : ((s.size : Int) == 0) = false := by rw [beq_eq_false_iff_ne]; omega
  obtain ⟨i, hi, hi0, hi1, hi2⟩ := info_parts u8_info
  generalize hM : madeCells (Value.int .u8 0).cells (((s.size : Nat) : Int).toNat * i.size) = M
  have hMs : M.size = s.size := by rw [← hM, size_madeCells, hi1]; simp
  have hmake : ∀ W : World, (Instr.makeSlice 78 (.int .i64 (s.size : Int)) (.int .i64 (s.size : Int))).run Tryz.prog W = .ok (.slice (some ⟨W.heap.size, 0, none⟩) s.size s.size) (W.alloc (.cells M 5)) := by
    intro W
    have e := run_make (P := Tryz.prog) W 78 5 i (.int .u8 0) Tryz.underlying78 hi hi0 .i64 .i64 (s.size : Int) (s.size : Int) (by omega) (by omega) (by rw [hi2]; omega) (by omega)
    rw [hM] at e
    simpa using e
  have hg : (w.alloc (.cells M 5)).heap[w.heap.size]? = some (.cells M 5 (0, 0)) := heap_alloc_new w _
  have hcopy := Lib.run_copy_row_string (P := Tryz.prog) (w.alloc (.cells M 5)) 78 9 3 5 w.heap.size 0 s.size s.size s M 5 Tryz.underlying78 (by rw [hi]; simp [hi1]) hg (Nat.le_refl _) (by omega)
  have hrow : (M.toList.take 0 ++ Lib.byteCells s.data.toList ++ M.toList.drop (0 + s.size)) = Lib.byteCells s.data.toList := by
    rw [List.take_zero, List.nil_append, List.drop_of_length_le (by rw [Array.length_toList]; omega), List.append_nil]
  rw [hrow] at hcopy
  have hg2 : ((w.alloc (.cells M 5)).setRow w.heap.size (Lib.byteCells s.data.toList).toArray).heap[w.heap.size]? = some (.cells (Lib.byteCells s.data.toList).toArray 5 (0, 0)) := setRow_heap _ _ M _ 5 (0, 0) hg
  have hb : Below w.heap.size w ((w.alloc (.cells M 5)).setRow w.heap.size (Lib.byteCells s.data.toList).toArray) :=
    ((Below.refl _ _).alloc (Nat.le_refl _) _).trans ⟨rfl, rfl, rfl, by simp, fun k hk => setRow_other _ _ _ _ (by omega)⟩
  clear hM hg hrow
  have hIs : Is ((w.alloc (.cells M 5)).setRow w.heap.size (Lib.byteCells s.data.toList).toArray) w.heap.size 5 (Lib.byteCells s.data.toList) := hg2
  generalize hW : (w.alloc (.cells M 5)).setRow w.heap.size (Lib.byteCells s.data.toList).toArray = W at *
  have hstr := Lib.run_unsafeString_row (P := Tryz.prog) W 266 3 9 5 Tryz.underlying266 u8_one w.heap.size (Lib.byteCells s.data.toList).length (by unfold World.shape?; rw [hg2]; simp) s.data.toList
    (by intro e; have := congrArg List.length e; simp at this; exact h0 (by rw [ByteArray.size, this]; rfl)) (by rw [Lib.byteCells_length]; exact Nat.le_refl _) (by rw [Array.length_toList]; show s.size ≤ _; omega)
    (by
      intro j x hx
      have hplain : (⟨w.heap.size, 0, none⟩ : Addr).add j = ⟨w.heap.size, j, none⟩ := by unfold Addr.add; split <;> simp_all
      rw [hplain, hIs.cell j]
      simp [Lib.byteCells, hx])
  have hlen : s.data.toList.length = s.size := Array.length_toList
  rw [hlen] at hstr
  have hfin : Below w.heap.size w (W.freeze ⟨w.heap.size, 0, none⟩ s.size) := Lib.below_freeze hb (Nat.le_refl _) _
  clear hg2 hIs hW hlen hb
  go_enter Tryz.func120, Tryz.ntmps120
  go_wp2
  go_ret
  exact ⟨rfl, hfin⟩

theorem clone_any (s : ByteArray) (w : World) (h : s.size ≤ 1000) :
    Calls Tryz.prog 70 #[.string s] w fun e w' => e = .returned (.string s) ∧ Below w.heap.size w w' := by
  go_enter Tryz.func70, Tryz.ntmps70
  go_wp2_with fail
  refine (cloneLite_any s _ h).mono ?_
  rintro e w1 ⟨rfl, hb⟩
  go_wp2_with fail
  go_ret
  exact ⟨rfl, hb⟩

end Go.Proofs.YtbkpdapagfjmmaaGreatDoor

/-
  Walks: numbers and frames; Ping, Bye.
-/
namespace Go.Proofs.YtbkpdapagfjmmaaGreatDoor
open Go.RowKit

theorem wire_string (w : World) (B : Nat) (v : Value) (n : Nat) (h : w.ownsRow B 5 1 v (Lk.wire n).length (bytesV (Lk.wire n))) : (convert 78 9 v).run Tryz.prog w = .ok (.string (bs (Lk.wire n))) w := owned_string h (Lk.wire_len_pos n)

set_option maxHeartbeats 1000000 in
set_option maxRecDepth 100000 in
theorem numberFrame_any (k st : Int) (n : Nat) (z : Int) (hz : z = n) (h : n ≤ 268435455) (w : World) : Calls Tryz.prog 115 #[.int .i64 k, .int .i64 st, .int .i64 z] w fun e w' => e = .returned (.agg #[.int .i64 k, .int .i64 st, .string (bs (Lk.wire n))]) ∧ Below w.heap.size w w' := by
  subst hz
  have HX := hide (Is.new w 79 [.int .i64 0, .int .i64 0, .string ⟨#[]⟩])
  have HB := hide ((Below.refl w.heap.size w).alloc (Nat.le_refl _) (.cells #[.int .i64 0, .int .i64 0, .string ⟨#[]⟩] 79))
  go_enter Tryz.func115, Tryz.ntmps115
  go_wp2_with fail
  refine (appendNumber_T (w.heap.size + 1) (.slice none 0 0) [] n h _ (by simp) (World.ownsRow_nil _ _ _ _) (by simp)).mono ?_
  rintro e w1 ⟨v1, rfl, ho1, hb1, hk1⟩
  rw [List.nil_append] at ho1
  have hcv := wire_string w1 _ v1 n ho1
  have hX1 := (unhide HX).below hb1 (by omega)
  have hbel := (unhide HB).trans (hb1.mono (by omega))
  have n0 := hX1.cell 0
  have n1 := hX1.cell 1
  have n2 := hX1.cell 2
  have g0 := hX1.free 0
  have g1 := hX1.free 1
  have g2 := hX1.free 2
  have hl := hX1.lt
  simp only [List.getElem?_cons_zero, List.getElem?_cons_succ] at n0 n1 n2
  clear hb1 hX1 ho1 hk1
  go_wp2_with fail
  exact bodyPost_ret (v := .agg #[.int .i64 k, .int .i64 st, .string (bs (Lk.wire n))]) (by simp [results, Tryz.results115, go_sem, n0, n1, n2]) rfl ⟨rfl, ((hbel.setCell (by simp) _).setCell (by simp) _).setCell (by simp) _⟩

theorem number_val (d : Lk.Bs) : (Lk.rd 0 0 d).val = (Lk.numOf d : Int) := by
  unfold Lk.numOf
  cases Lk.rd 0 0 d <;> rfl
theorem fnumber_any (f : Lk.Fr) (w : World) (hd : f.d.length ≤ 1000) : Calls Tryz.prog 143 #[frA f] w fun e w' => e = .returned (.int .i64 (Lk.numOf f.d : Int)) ∧ Below w.heap.size w w' := by
  have hs : (bs f.d).size ≤ maxLen := by rw [bs_size]; unfold maxLen; omega
  have hb0 := (Below.refl w.heap.size w).alloc (Nat.le_refl _) (.cells #[.int .i64 (f.k : Int), .int .i64 (f.st : Int), .string (bs f.d)] 79)
  have hb1 := hb0.alloc (by simp) (.cells #[.string (bs f.d), .int .i64 0] 83)
  have HB := hide hb1
  clear hb0 hb1
  have hI := Is.new (w.alloc (.cells #[.int .i64 (f.k : Int), .int .i64 (f.st : Int), .string (bs f.d)] 79)) 83 [.string (bs f.d), .int .i64 0]
  rw [World.size_alloc] at hI
  have HC := hide (number_any (w.heap.size + 1) 83 (bs f.d) 0 [] _ hs (Nat.zero_le _) hI)
  clear hI
  go_enter Tryz.func143, Tryz.ntmps143
  go_wp2_with fail
  refine (unhide HC).mono ?_
  rintro e w1 ⟨rfl, hI1, hT1⟩
  have hl : ((bs f.d).data.toList.drop 0) = f.d := by simp [bs]
  rw [hl, number_val]
  have hbel : Below w.heap.size w w1 := Turns.toBelow (unhide HB) hT1 (by omega) (by simp; omega)
  clear hI1 hT1 hl
  go_wp2_with fail
  go_ret
  exact ⟨rfl, hbel⟩

theorem newest_any (b : Nat) (n : Int) (w : World) (_hb : b < w.heap.size) (c : w.cell? ⟨b, 15, none⟩ = some (.int .i64 n)) (hn : 0 ≤ n) (hn2 : n ≤ 2 ^ 40) : Calls Tryz.prog 121 #[.pointer (some ⟨b, 11, none⟩)] w fun e w' => e = .returned (.int .i64 (max (n - 2) 0)) ∧ w' = w := by
  have hmax := run_max2 Tryz.prog w #[3, 3] 3 (n - 2) 0
  go_enter Tryz.func121, Tryz.ntmps121
  go_wp2_with fail
  go_ret
  exact ⟨rfl, rfl⟩
theorem down_any (b : Nat) (n : Int) (w : World) (_hb : b < w.heap.size) (c : w.cell? ⟨b, 2, none⟩ = some (.int .i64 n)) : Calls Tryz.prog 42 #[.pointer (some ⟨b, 0, none⟩)] w fun e w' => e = .returned (.bool (n != 0)) ∧ w' = w := by
  go_enter Tryz.func42, Tryz.ntmps42
  go_wp2_with fail
  go_ret
  exact ⟨rfl, rfl⟩
end Go.Proofs.YtbkpdapagfjmmaaGreatDoor
