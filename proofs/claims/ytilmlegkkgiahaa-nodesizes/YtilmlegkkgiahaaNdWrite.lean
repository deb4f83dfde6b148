/- What the writer of package node does: newWriter, number, bytes, key, load. Condition: what is laid has room in a load. -/
import Derived.Test.YtilmlegkkgiahaaNdSmall
import Derived.Laws.BitsAllLaws
import Derived.Laws.MakeOwn
import Derived.Laws.NewBlocks
namespace Go.Proofs.Ytilmlegkkgiahaa
open Go.RowKit Go.Lib
set_option linter.unusedVariables false
set_option maxRecDepth 20000

/-- What was laid, and noughts behind it. -/
def pad508 (l : List UInt8) : Array Value := (bcells (padTo 508 l)).toArray
theorem padTo_len {l : List UInt8} (h : l.length ≤ 508) : (padTo 508 l).length = 508 := by simp [padTo]; omega
theorem pad508_size {l : List UInt8} (h : l.length ≤ 508) : (pad508 l).size = 508 := by simp [pad508, bcells, padTo_len h]
/-- A row of a load, being written. -/
def Rw (w : World) (g : Nat) (l : List UInt8) : Prop := w.heap[g]? = some (.cells (pad508 l) 5 (0, 0)) ∧ l.length ≤ 508
theorem Rw.lt {w : World} {g : Nat} {l : List UInt8} (h : Rw w g l) : g < w.heap.size := (Array.getElem?_eq_some_iff.1 h.1).1
theorem Rw.same {w w' : World} {g : Nat} {l : List UInt8} (h : Rw w g l) (e : w'.heap[g]? = w.heap[g]?) : Rw w' g l := ⟨e.trans h.1, h.2⟩
theorem run_appW {w : World} (ty : TypeId) {F : Nat → Prop} {g : Nat} {vx : Value} {l m : List UInt8} (R : Rw w g l) (X : BV w F vx m) (hl : l.length + m.length ≤ 508) :
    ∃ w', (Builtin.append_ #[31, 31] ty #[.slice (some ⟨g, 0, none⟩) l.length 508, vx]).run Try.prog w = .ok (.slice (some ⟨g, 0, none⟩) (l.length + m.length) 508) w' ∧ Rw w' g (l ++ m) ∧ Chg (· = g) w w' ∧ w'.heap.size = w.heap.size := by
  obtain ⟨i, hi0, hz, h2, h3⟩ := info_parts infoByte
  obtain ⟨p, c, rfl, hx, _, hp, _⟩ := X
  cases p with
  | none =>
    obtain ⟨h0, rfl⟩ := hp rfl
    obtain rfl := List.length_eq_zero_iff.1 h0
    have own : w.ownsRow 0 5 1 (.slice (some ⟨g, 0, none⟩) l.length 508) l.length (bcells l) := by
      refine ⟨by simp [bcells], Or.inr ⟨g, 508, _, rfl, Nat.zero_le _, R.1, R.2, by decide, by rw [pad508_size R.2], ?_⟩⟩
      simp [pad508, padTo, bcells, List.map_append]
    have hrun := run_append_owned_none (P := Try.prog) (w := w) 0 31 ty 5 i 1 Try.underlying31 hi0 _ _ _ own
    exact ⟨w, hrun, by simpa using R, Chg.refl _ _, rfl⟩
  | some ad =>
    have hr := run_append_room (P := Try.prog) w 31 ty 5 i Try.underlying31 hi0 g l.length 508 (pad508 l) R.1 ad m.length c (bcells m) (by rw [h2]; simp [bcells]) (hx.cells ad rfl) (bcells_one m) hl (by rw [h2, pad508_size R.2]; simp [bcells]; omega)
    rw [h2] at hr
    have e : ((pad508 l).toList.take (l.length * 1) ++ bcells m ++ (pad508 l).toList.drop (l.length * 1 + (bcells m).length)).toArray = pad508 (l ++ m) := by
      have h1 : (pad508 l).toList = bcells l ++ bcells (List.replicate (508 - l.length) 0) := by simp [pad508, padTo, bcells]
      rw [h1]
      have hb : (bcells l).length = l.length := by simp [bcells]
      have hbm : (bcells m).length = m.length := by simp [bcells]
      rw [Nat.mul_one, List.take_left' hb, hbm, List.drop_append, hb, List.drop_of_length_le (by rw [hb]; omega)]
      simp only [List.nil_append, pad508, padTo]
      congr 1
      have : (bcells (List.replicate (508 - l.length) 0)).drop (l.length + m.length - l.length) = bcells (List.replicate (508 - (l ++ m).length) 0) := by
        simp only [bcells, List.map_replicate, List.drop_replicate, List.length_append]
        congr 1
        omega
      rw [this]
      simp [bcells]
    rw [e] at hr
    refine ⟨_, hr, ⟨?_, by simp; omega⟩, (Chg.refl (· = g) w).setRow (Or.inl rfl) _, by simp⟩
    exact setRow_heap w g _ _ _ _ R.1
/-- A writer at a block. -/
structure Wb (w : World) (wb g : Nat) (l : List UInt8) : Prop where
  row : Rw w g l
  c0 : w.cell? ⟨wb, 0, none⟩ = some (.slice (some ⟨g, 0, none⟩) l.length 508)
  f0 : w.frozen? ⟨wb, 0, none⟩ = false
  ne : g ≠ wb
def wset (wb g : Nat) : Nat → Prop := fun k => k = wb ∨ k = g
theorem wset_l (wb g : Nat) : wset wb g wb := Or.inl rfl
theorem wset_r (wb g : Nat) : wset wb g g := Or.inr rfl
theorem Wb.lt {w : World} {wb g : Nat} {l : List UInt8} (h : Wb w wb g l) : wb < w.heap.size := cell_lt h.c0
theorem Wb.chg {w w' : World} {wb g : Nat} {l : List UInt8} {G : Nat → Prop} (h : Wb w wb g l) (C : Chg G w w') (h1 : ¬ G wb) (h2 : ¬ G g) : Wb w' wb g l :=
  ⟨h.row.same (C.block g h.row.lt h2), C.cell h.c0 h1, (C.frozen h.lt h1).trans h.f0, h.ne⟩
theorem Wb.below {w w' : World} {wb g : Nat} {l : List UInt8} (h : Wb w wb g l) (B : Below w.heap.size w w') : Wb w' wb g l :=
  h.chg (G := fun _ => False) (Chg.of_below B) (fun h => h) (fun h => h)
theorem Wb.put {w w' : World} {wb g n : Nat} {l m : List UInt8} (h : Wb w wb g l) (R : Rw w' g (l ++ m)) (C : Chg (· = g) w w') (hn : l.length + m.length = n) : Wb (w'.setCell ⟨wb, 0, none⟩ (.slice (some ⟨g, 0, none⟩) n 508)) wb g (l ++ m) := by
  subst hn
  have d0 := C.cell h.c0 (fun e => h.ne e.symm)
  have e0 := (C.frozen (p := ⟨wb, 0, none⟩) h.lt (fun e => h.ne e.symm)).trans h.f0
  refine ⟨R.same (Below.heap_setCell _ _ _ _ h.ne), ?_, ?_, h.ne⟩
  · rw [List.length_append]; simp [go_sem, d0]
  · simp [go_sem, e0]
theorem chg_put {w w' : World} {wb g : Nat} {v : Value} (C : Chg (· = g) w w') : Chg (wset wb g) w (w'.setCell ⟨wb, 0, none⟩ v) := Chg.setCell (F := wset wb g) (C.mono (fun k _ h => by rw [h]; exact wset_r wb g)) (p := ⟨wb, 0, none⟩) (Or.inl (wset_l wb g)) v
/-- Bytes that are written down, as a value. -/
theorem lit_bv (w : World) (m : List UInt8) (cs : Array Value) (hc : cs.toList = bcells m) (hm : m.length ≤ 1000) : BV (w.alloc (.cells cs 5)) (fun _ => True) (.slice (some ⟨w.heap.size, 0, none⟩) m.length m.length) m :=
  ((own_lits w 0 (Nat.zero_le _) m cs hc (by unfold maxLen; omega)).bv (by omega)).mono (fun _ _ _ => trivial)
theorem Rw.alloc {w : World} {g : Nat} {l : List UInt8} (h : Rw w g l) (o : Obj) : Rw (w.alloc o) g l := h.same (Below.heap_alloc _ _ _ h.lt)

set_option maxHeartbeats 1000000 in
theorem wbytes_any {F : Nat → Prop} (wb g : Nat) (v : Value) (l m : List UInt8) (w : World) (hW : Wb w wb g l) (X : BV w F v m) (hl : l.length + m.length ≤ 508) :
    Calls Try.prog 45 #[.pointer (some ⟨wb, 0, none⟩), v] w fun e w' => e = .returned (.tuple #[]) ∧ Wb w' wb g (l ++ m) ∧ Chg (wset wb g) w w' ∧ w'.heap.size = w.heap.size := by
  have HW := hid hW
  have HX := hid X
  have hlt := hW.lt
  obtain ⟨R, c0, f0, ne⟩ := hW
  have HR := hid R
  have HN := hid ne
  obtain ⟨p, c, rfl, _⟩ := X
  clear R ne
  go_enter Try.func45, Try.ntmps45
  go_wp2_with (at_builtin; obtain ⟨w', hr, R', C', S'⟩ := run_appW 31 HR.out HX.out hl; refine wl_run rfl rfl rfl rfl hr ?_; have q0 := C'.cell c0 (fun e => HN.out e.symm); have q1 := (C'.frozen (p := ⟨wb, 0, none⟩) hlt (fun e => HN.out e.symm)).trans f0; have HR' := hid R'; have HC' := hid C'; have HS' := hid S'; clear hr R' C' S')
  refine end0 Try.results45 rfl ?_
  exact ⟨rfl, HW.out.put HR'.out HC'.out rfl, chg_put HC'.out, by rw [← HS'.out]; simp [World.setCell]⟩
theorem chg_new {w w' : World} {g : Nat} {o : Obj} (C : Chg (· = g) (w.alloc o) w') : Chg (· = g) w w' := ((Chg.refl (· = g) w).alloc o).trans C (fun _ _ h => h)
set_option maxHeartbeats 1000000 in
theorem wnum_any (wb g N : Nat) (l : List UInt8) (w : World) (hW : Wb w wb g l) (hN : N < 65536) (hl : l.length + 2 ≤ 508) :
    Calls Try.prog 44 #[.pointer (some ⟨wb, 0, none⟩), .int .i64 (N : Int)] w fun e w' => e = .returned (.tuple #[]) ∧ Wb w' wb g (l ++ le2 N) ∧ Chg (wset wb g) w w' := by
  have HW := hid hW
  have hlt := hW.lt
  obtain ⟨R, c0, f0, ne⟩ := hW
  have HR := hid R
  have HN := hid ne
  have HX := hid (lit_bv w (le2 N) #[.int .u8 ((N : Int) % 256), .int .u8 ((N : Int) / 256)] (by
    have e1 : (((UInt8.ofNat (N % 256)).toNat : Nat) : Int) = (N : Int) % 256 := by simp <;> omega
    have e2 : (((UInt8.ofNat (N / 256)).toNat : Nat) : Int) = (N : Int) / 256 := by simp <;> omega
    simp only [bcells, le2, List.map_cons, List.map_nil, e1, e2]) (by simp [le2]))
  have hll : l.length + (le2 N).length ≤ 508 := by rw [le2_len]; omega
  clear R ne
  go_enter Try.func44, Try.ntmps44
  go_wp2_with (at_builtin; obtain ⟨w', hr, R', C', S'⟩ := run_appW 31 (HR.out.alloc _) HX.out hll; refine wl_run rfl rfl rfl rfl hr ?_; replace C' := chg_new C'; have q0 := C'.cell c0 (fun e => HN.out e.symm); have q1 := (C'.frozen (p := ⟨wb, 0, none⟩) hlt (fun e => HN.out e.symm)).trans f0; have HR' := hid R'; have HC' := hid C'; clear hr R' C' S')
  refine end0 Try.results44 rfl ?_
  exact ⟨rfl, HW.out.put HR'.out HC'.out rfl, chg_put HC'.out⟩
set_option maxHeartbeats 1000000 in
theorem wkey_any {F : Nat → Prop} (wb g : Nat) (v : Value) (l k : List UInt8) (w : World) (hW : Wb w wb g l) (X : BV w F v k) (hF : ∀ j, F j → j ≠ wb ∧ j ≠ g) (hk : k.length < 256) (hl : l.length + (1 + k.length) ≤ 508) :
    Calls Try.prog 48 #[.pointer (some ⟨wb, 0, none⟩), v] w fun e w' => e = .returned (.tuple #[]) ∧ Wb w' wb g (l ++ (UInt8.ofNat k.length :: k)) ∧ Chg (wset wb g) w w' := by
  have HW := hid hW
  have HXk := hid X
  have HF := hid hF
  have hlt := hW.lt
  obtain ⟨R, c0, f0, ne⟩ := hW
  have HR := hid R
  have HN := hid ne
  have HX := hid (lit_bv w [UInt8.ofNat k.length] #[.int .u8 (k.length : Int)] (by
    have e1 : (((UInt8.ofNat k.length).toNat : Nat) : Int) = (k.length : Int) := by simp <;> omega
    simp only [bcells, List.map_cons, List.map_nil, e1]) (by simp))
  have hll : l.length + [UInt8.ofNat k.length].length ≤ 508 := by simp; omega
  obtain ⟨p, c, rfl, _⟩ := X
  clear R ne hF
  have HB := hid (fun w1 (h : Wb w1 wb g (l ++ [UInt8.ofNat k.length])) (C : Chg (wset wb g) w w1) => wbytes_any wb g (.slice p k.length c) _ k w1 h (HXk.out.kp (Kp.of_chg C (fun j hj e => by rcases e with e | e; exact (HF.out j hj).1 e; exact (HF.out j hj).2 e))) (by simp; omega))
  go_enter Try.func48, Try.ntmps48
  go_wp2_with (first
    | (at_builtin; obtain ⟨w', hr, R', C', S'⟩ := run_appW 31 (HR.out.alloc _) HX.out hll; refine wl_run rfl rfl rfl rfl hr ?_; replace C' := chg_new C'; have q0 := C'.cell c0 (fun e => HN.out e.symm); have q1 := (C'.frozen (p := ⟨wb, 0, none⟩) hlt (fun e => HN.out e.symm)).trans f0; have HC' := hid (chg_put (wb := wb) (v := .slice (some ⟨g, 0, none⟩) (l.length + 1) 508) C'); have HB2 := hid (HB.out _ (HW.out.put R' C' (show l.length + [UInt8.ofNat k.length].length = l.length + 1 from rfl)) HC'.out); clear hr R' C' S')
    | (go_at_call 45; with_reducible refine HB2.out.mono ?_; rintro e w3 ⟨rfl, W3, C3, _⟩; have HW3 := hid W3; have HC3 := hid (HC'.out.trans C3 (fun _ _ h => h)); clear W3 C3)
    | fail)
  refine end0 Try.results48 rfl ?_
  exact ⟨rfl, by have := HW3.out; rw [List.append_assoc] at this; exact this, HC3.out⟩
set_option maxHeartbeats 1000000 in
theorem wload_any (wb g : Nat) (l : List UInt8) (w : World) (hW : Wb w wb g l) :
    Calls Try.prog 46 #[.pointer (some ⟨wb, 0, none⟩)] w fun e w' => e = .returned (.slice (some ⟨g, 0, none⟩) 508 508) ∧ w' = w := by
  obtain ⟨⟨_, hl⟩, c0, f0, ne⟩ := hW
  have hl' : (l.length : Int) ≤ 508 := by omega
  go_enter Try.func46, Try.ntmps46
  go_wp2
  go_ret
  exact ⟨rfl, rfl⟩
theorem Rw.own {w : World} {g base : Nat} {l : List UInt8} (h : Rw w g l) (hb : base ≤ g) : OwnB w base (.slice (some ⟨g, 0, none⟩) 508 508) (padTo 508 l) := by
  have e := padTo_len h.2
  refine ⟨by simp [bcells], Or.inr ⟨g, 508, _, by rw [e], hb, h.1, by rw [e]; exact Nat.le_refl _, by decide, by rw [pad508_size h.2], ?_⟩⟩
  rw [e]
  simp only [pad508]
  rw [List.take_of_length_le (by simp [bcells, e])]
theorem made_noughts (L : Nat) : madeCells (Value.int .u8 0).cells L = (bcells (List.replicate L 0)).toArray := by
  apply Array.ext_getElem?
  intro i
  simp only [madeCells, bcells, List.map_replicate, List.getElem?_toArray]
  by_cases h : i < L
  · simp [h, Value.cells, Nat.mod_one]
  · simp [h]
theorem made508 (w : World) : (Instr.makeSlice 31 (.int .i64 0) (.int .i64 508)).run Try.prog w = .ok (.slice (some ⟨w.heap.size, 0, none⟩) 0 508) (w.alloc (.cells (pad508 []) 5)) := by
  obtain ⟨i0, hi, hz0, hz1, hz2⟩ := info_parts infoByte
  have h := run_make (P := Try.prog) w 31 5 i0 (.int .u8 0) Try.underlying31 hi hz0 .i64 .i64 0 508 (by decide) (by decide) (by rw [hz2]; decide) (by decide)
  rw [hz1] at h
  have e : madeCells (Value.int .u8 0).cells (508 * 1) = pad508 [] := by
    rw [made_noughts]
    unfold pad508 padTo
    rfl
  rw [show (Int.toNat 508 * 1) = 508 * 1 from rfl, e] at h
  exact h
theorem Rw.new (w : World) : Rw (w.alloc (.cells (pad508 []) 5)) w.heap.size [] := ⟨heap_alloc_new w _, by simp⟩
theorem Rw.made (w : World) {P : Array Value} (h : P = pad508 []) (o : Obj) : Rw ((w.alloc (.cells P 5)).alloc o) w.heap.size [] := by subst h; exact (Rw.new w).alloc o
theorem below3 (w : World) (o1 o2 o3 : Obj) : Below w.heap.size w (((w.alloc o1).alloc o2).alloc o3) := (((Below.refl _ _).alloc (Nat.le_refl _) o1).alloc (by simp) o2).alloc (by simp; omega) o3
def nwEnd (w : World) (c : UInt8) (e : Ending) (w' : World) : Prop := ∃ g, e = .returned (.agg #[.slice (some ⟨g, 0, none⟩) 1 508]) ∧ Rw w' g [c] ∧ w.heap.size ≤ g ∧ Below w.heap.size w w'
theorem made508' : ∃ P, Hid (P = pad508 []) ∧ ∀ w : World, (Instr.makeSlice 31 (.int .i64 0) (.int .i64 508)).run Try.prog w = .ok (.slice (some ⟨w.heap.size, 0, none⟩) 0 508) (w.alloc (.cells P 5)) := ⟨pad508 [], hid rfl, made508⟩
end Go.Proofs.Ytilmlegkkgiahaa
