/- How the arguments of the laws of eval read: an expression, so many levels deep, and slices of values, with the bound of the second form. No conditions. What the rows' lists give the walks: what the library's variables hold; and a world in which all listed tables lie. No conditions. -/
import Derived.Test.YtblkhlhhlalbkaaGreatDoorRows
import Derived.Test.YtblkhlhhlalbkaaGreatDoorVO
import Derived.Test.YtblkhlhhlalbkaaGreatDoorEH
import Derived.Test.YtblkhlhhlalbkaaGreatDoorXT
import Derived.Lib.LaidTab
import Derived.OpenShut
import Derived.ChangeArms
import Derived.ProofKit
import Derived.Deep.DeepHandedRow
import Derived.LaidMore
import Derived.Lay
import Derived.LaidHandle
import Derived.Stop.LaidErr
import Derived.MakeChecks
import Derived.LaidLaws
namespace Go.Proofs.YtblkhlhhlalbkaaGreatDoor
open Go.ChangeShapes Go.WideShapes Go.ChangeAt Go.RowKit Go.Deep
set_option linter.unusedVariables false
set_option maxRecDepth 20000

theorem cellsOfX : Tryz.prog.cellsOf 26 = 10 := by kernel_rfl
theorem cellsOfXs : Tryz.prog.cellsOf 24 = 1 := by kernel_rfl
theorem bulk_at {H : Type} : ∀ {ds : List (DataW H)} {j : Nat} {d : DataW H}, ds[j]? = some d → Rows.uptoBulk d ≤ Rows.uptoBulkAll ds
  | [], j, d, h => by simp at h
  | x :: ds, 0, d, h => by
    simp at h
    subst h
    simp only [Rows.uptoBulkAll]
    omega
  | x :: ds, j + 1, d, h => by
    have := bulk_at (ds := ds) (j := j) (d := d) (by simpa using h)
    simp only [Rows.uptoBulkAll]
    omega
theorem small_at {H : Type} {ds : List (DataW H)} (hk : Rows.uptoSmall H ds = true) {j : Nat} {d : DataW H} (h : ds[j]? = some d) : Rows.uptoBulk d ≤ 1048576 :=
  Nat.le_trans (bulk_at h) (of_decide_eq_true hk)
theorem bulk_pos {H : Type} (d : DataW H) : 1 ≤ Rows.uptoBulk d := by
  cases d with
  | lit l => cases l <;> simp [Rows.uptoBulk]
  | _ => simp [Rows.uptoBulk]
theorem bulk_len {H : Type} : ∀ (l : List (DataW H)), l.length ≤ Rows.uptoBulkAll l
  | [] => Nat.zero_le _
  | d :: l => by
    have := bulk_pos d
    have := bulk_len l
    simp only [Rows.uptoBulkAll, List.length_cons]
    omega
/-- A slice of values, whose data are the values', one by one. -/
theorem open_vals_each {H : Type} {enc : TypeId × Value → H} {W : World} {r : Reach} {b0 : Nat} {v : Value} {d : DataW H} {p : List MemPlace} (hv : Value.okWide Tryz.prog W r b0 27 v)
    (h : DataW.Trod enc Tryz.prog W 0 (fun _ => true) true 27 v d p) :
    ∃ (pa : Option Addr) (cap : Nat) (vs : List Val), v = .slice pa vs.length cap ∧ Row W pa vs ∧ (pa = none → vs.length = 0 ∧ cap = 0) ∧ (∀ x ∈ vs, -9223372036854775808 ≤ x.n ∧ x.n ≤ 9223372036854775807) ∧ vs.length ≤ maxLen ∧
      ((d = .nil ∧ vs = []) ∨ ∃ sp, d = .slice (vs.map datV) sp) := by
  obtain ⟨a0, len, cap, rfl⟩ := okWide_slice Tryz.underlying27 hv
  obtain ⟨fuel, hf⟩ := h
  rcases open_slice Tryz.underlying27 hf with ⟨hcs, hx⟩ | ⟨a, l, c, m, n, D, Pl, hcs, _, hl, hm, hmm, hx, hel⟩
  · simp [Value.cells] at hcs
    obtain ⟨rfl, rfl, rfl⟩ := hcs
    exact ⟨none, 0, [], rfl, Or.inl rfl, fun _ => ⟨rfl, rfl⟩, by simp, Nat.zero_le _, Or.inl ⟨(Prod.mk.inj hx).1, rfl⟩⟩
  · simp [Value.cells] at hcs
    obtain ⟨rfl, rfl, rfl⟩ := hcs
    have hlm : len ≤ m := by simp at hmm; omega
    obtain ⟨f, hF⟩ := choose_val (n := len) (p := fun i x => W.cell? (a.add (i * 3)) = some (.int .i64 x.k) ∧ W.cell? ((a.add (i * 3)).add 1) = some (.int .i64 x.n) ∧ W.cell? ((a.add (i * 3)).add 2) = some (.string x.s) ∧ D i = datV x ∧ -9223372036854775808 ≤ x.n ∧ x.n ≤ 9223372036854775807) (fun i hi => by
      obtain ⟨cs', hc, ht⟩ := hel i (by omega)
      rw [cellsOfV] at hc
      obtain ⟨x, rfl, hd, hn⟩ := trod_val_all ht
      obtain ⟨_, _, hcell⟩ := World.cells?_some hc
      exact ⟨x, by simpa [Addr.add] using hcell 0 (by omega), hcell 1 (by omega), hcell 2 (by omega), hd, hn⟩)
    have hlen : ((List.range len).map f).length = len := by simp
    have hdd : (List.range len).map D = ((List.range len).map f).map datV := by
      rw [List.map_map]
      exact List.map_congr_left (fun i hi => (hF i (List.mem_range.1 hi)).2.2.2.1)
    rw [hdd] at hx
    refine ⟨some a, cap, (List.range len).map f, by rw [hlen], ?_, by simp, ?_, by rw [hlen]; omega, Or.inr ⟨_, (Prod.mk.inj hx).1⟩⟩
    · by_cases h0 : len = 0
      · subst h0; exact Or.inl rfl
      · right
        obtain ⟨b, off, spot⟩ := a
        have hc := (hF 0 (by omega)).1
        have hspot : spot = none := by simpa [Addr.add] using World.cell?_spot hc
        subst hspot
        refine ⟨b, off, rfl, fun i hi => ?_⟩
        rw [hlen] at hi
        obtain ⟨g0, g1, g2, _⟩ := hF i hi
        simp only [add_plain, List.getElem_map, List.getElem_range] at *
        exact ⟨g0, g1, g2⟩
    · intro x hx'
      obtain ⟨i, hi, rfl⟩ := List.mem_map.1 hx'
      exact (hF i (List.mem_range.1 hi)).2.2.2.2

theorem bulk_mem {H : Type} {d : DataW H} {l : List (DataW H)} (h : d ∈ l) : Rows.uptoBulk d ≤ Rows.uptoBulkAll l := by
  obtain ⟨i, hi, rfl⟩ := List.getElem_of_mem h
  exact bulk_at (by rw [List.getElem?_eq_getElem hi])
theorem bulk_dat {H : Type} (a : Val) : a.s.size + 1 ≤ Rows.uptoBulk (datV (H := H) a) := by
  have h2 : a.s.data.toList.length = a.s.size := by simp
  simp only [datV, Rows.uptoBulk, Rows.uptoBulkAll]
  omega
/-- What the bound gives of a slice of values. -/
theorem row_bd {H : Type} {ds : List (DataW H)} (hk : Rows.uptoSmall H ds = true) {j : Nat} {vs : List Val} {d : DataW H} (h : ds[j]? = some d) (hd : (d = .nil ∧ vs = []) ∨ ∃ sp, d = .slice (vs.map datV) sp)
    (hn : ∀ x ∈ vs, -9223372036854775808 ≤ x.n ∧ x.n ≤ 9223372036854775807) : vs.length ≤ 1048576 ∧ ∀ v ∈ vs, BdV v := by
  have hs := small_at hk h
  rcases hd with ⟨_, rfl⟩ | ⟨sp, rfl⟩
  · exact ⟨Nat.zero_le _, fun v hv => by cases hv⟩
  · simp only [Rows.uptoBulk] at hs
    have hl := bulk_len (vs.map (datV (H := H)))
    rw [List.length_map] at hl
    refine ⟨by omega, fun v hv => ⟨hn v hv, ?_⟩⟩
    have h1 := bulk_mem (List.mem_map_of_mem (f := datV (H := H)) hv)
    have h2 := bulk_dat (H := H) v
    omega
theorem gat_leaf {w : World} {e : Gx} (p : Option Addr) (h : e.xs = []) : ∀ m, GAt w m e p
  | 0 => h
  | m + 1 => ⟨by rw [h]; exact Nat.zero_le _, Or.inl h⟩
theorem bd_leaf {e : Gx} (hb : BdV e.v ∧ e.t.length ≤ 2147483648 ∧ e.n.length ≤ 2147483648) (h : e.xs = []) : ∀ m, BdN m e
  | 0 => hb
  | m + 1 => ⟨hb, fun x hx => by rw [h] at hx; cases hx⟩
theorem sz_leaf {e : Gx} (h : e.xs = []) : ∀ m, szN m e = 1
  | 0 => rfl
  | m + 1 => by show 1 + (e.xs.map (szN m)).sum = 1; rw [h]; rfl
theorem sum_bulk {H : Type} {f : Gx → Nat} : ∀ {l : List Gx} {ds : List (DataW H)}, l.length = ds.length → (∀ i (h : i < l.length) (h' : i < ds.length), f l[i] ≤ Rows.uptoBulk ds[i]) → (l.map f).sum ≤ Rows.uptoBulkAll ds
  | [], _, _, _ => Nat.zero_le _
  | x :: l, [], h, _ => by simp at h
  | x :: l, d :: ds, h, q => by
    have h0 := q 0 (by simp) (by simp)
    have h1 := sum_bulk (l := l) (ds := ds) (by simpa using h) (fun i hi hi' => q (i + 1) (by simpa using hi) (by simpa using hi'))
    simp only [List.map_cons, List.sum_cons, Rows.uptoBulkAll]
    simp only [List.getElem_cons_zero] at h0
    omega
theorem add_plx (b off n : Nat) : (⟨b, off, none⟩ : Addr).add n = ⟨b, off + n, none⟩ := Addr.add_mid b off n
theorem arr_back (s : ByteArray) : (⟨s.data.toList.toArray⟩ : ByteArray) = s := by
  obtain ⟨d⟩ := s
  simp
theorem trod_struct8 {H : Type} {enc : TypeId × Value → H} {P : Program} {w : World} {base : Nat} {spare : Nat → Bool} {held : Bool} {t : TypeId} {f0 f1 f2 f3 f4 f5 f6 f7 : Field} {fuel : Nat} {cs : List Value} {x : DataW H × List MemPlace} (ht : P.underlying t = some (.struct #[f0, f1, f2, f3, f4, f5, f6, f7])) (h : DataW.trod enc P w base spare held fuel t cs = some x) :
    ∃ y0 y1 y2 y3 y4 y5 y6 y7 n, fuel = n + 1 ∧ x.1 = .agg [y0.1, y1.1, y2.1, y3.1, y4.1, y5.1, y6.1, y7.1] ∧ cs.length = P.cellsOf t ∧ DataW.trod enc P w base spare held n f0.type ((cs.drop f0.offset).take (P.cellsOf f0.type)) = some y0 ∧ DataW.trod enc P w base spare held n f1.type ((cs.drop f1.offset).take (P.cellsOf f1.type)) = some y1 ∧ DataW.trod enc P w base spare held n f2.type ((cs.drop f2.offset).take (P.cellsOf f2.type)) = some y2 ∧ DataW.trod enc P w base spare held n f3.type ((cs.drop f3.offset).take (P.cellsOf f3.type)) = some y3 ∧ DataW.trod enc P w base spare held n f4.type ((cs.drop f4.offset).take (P.cellsOf f4.type)) = some y4 ∧ DataW.trod enc P w base spare held n f5.type ((cs.drop f5.offset).take (P.cellsOf f5.type)) = some y5 ∧ DataW.trod enc P w base spare held n f6.type ((cs.drop f6.offset).take (P.cellsOf f6.type)) = some y6 ∧ DataW.trod enc P w base spare held n f7.type ((cs.drop f7.offset).take (P.cellsOf f7.type)) = some y7 := by
  obtain ⟨xs, n, hn, rfl, hl, hlen, hf⟩ := DataW.trod_struct ht h
  match xs, hlen with
  | [y0, y1, y2, y3, y4, y5, y6, y7], _ => exact ⟨y0, y1, y2, y3, y4, y5, y6, y7, n, hn, by simp, hl, by simpa using hf 0 f0 rfl, by simpa using hf 1 f1 rfl, by simpa using hf 2 f2 rfl, by simpa using hf 3 f3 rfl, by simpa using hf 4 f4 rfl, by simpa using hf 5 f5 rfl, by simpa using hf 6 f6 rfl, by simpa using hf 7 f7 rfl⟩
set_option maxHeartbeats 4000000 in
theorem trod_expr {H : Type} {enc : TypeId × Value → H} {W : World} (F : Nat) : ∀ (cs : List Value) (x : DataW H × List MemPlace), DataW.trod enc Tryz.prog W 0 (fun _ => true) true F 26 cs = some x → Rows.uptoBulk x.1 ≤ 1048576 →
    ∃ (e : Gx) (p : Option Addr) (c : Nat), cs = [.int .i64 e.k, .int .i64 e.op, .int .i64 e.v.k, .int .i64 e.v.n, .string e.v.s, .string ⟨e.t.toArray⟩, .string ⟨e.n.toArray⟩, .int .i64 e.c, .int .i64 e.y, .slice p e.xs.length c] ∧ GAt W (F / 2) e p ∧ e.xs.length ≤ c ∧ BdN (F / 2) e ∧ szN (F / 2) e ≤ Rows.uptoBulk x.1 := by
  induction F using Nat.strongRecOn with
  | _ F ih =>
  intro cs x h hbk
  obtain ⟨y0, y1, y2, y3, y4, y5, y6, y7, n, rfl, hx1, hl, h0, h1, h2, h3, h4, h5, h6, h7⟩ := trod_struct8 Tryz.underlying26 h
  rw [cellsOfX] at hl
  rw [hx1] at hbk ⊢
  clear h hx1
  match cs, hl with
  | [c0, c1, c2, c3, c4, c5, c6, c7, c8, c9], _ =>
    simp only [cellsOfV, cellsOfInt, cellsOfStr, cellsOfXs, List.drop_zero, List.take_succ_cons, List.take_zero, List.drop_succ_cons] at h0 h1 h2 h3 h4 h5 h6 h7
    obtain ⟨k, e0, g0, _⟩ := DataW.trod_int Tryz.underlying3 h0
    obtain ⟨op, e1, g1, _⟩ := DataW.trod_int Tryz.underlying3 h1
    obtain ⟨v, e2, g2, hv⟩ := trod_val_all h2
    obtain ⟨t, e3, g3, _⟩ := DataW.trod_string Tryz.underlying9 h3
    obtain ⟨nm, e4, g4, _⟩ := DataW.trod_string Tryz.underlying9 h4
    obtain ⟨cl, e5, g5, _⟩ := DataW.trod_int Tryz.underlying3 h5
    obtain ⟨ty, e6, g6, _⟩ := DataW.trod_int Tryz.underlying3 h6
    simp only [List.cons.injEq, and_true] at e0 e1 e2 e3 e4 e5 e6
    obtain ⟨e20, e21, e22⟩ := e2
    subst e0 e1 e20 e21 e22 e3 e4 e5 e6
    simp only [g0, g1, g2, g3, g4, g5, g6, Rows.uptoBulk, Rows.uptoBulkAll] at hbk ⊢
    have hvb := bulk_dat (H := H) v
    have ht : t.data.toList.length = t.size := by simp
    have hm : nm.data.toList.length = nm.size := by simp
    have hp7 := bulk_pos y7.1
    have hb : BdV v ∧ t.data.toList.length ≤ 2147483648 ∧ nm.data.toList.length ≤ 2147483648 := ⟨⟨hv, by omega⟩, by omega, by omega⟩
    rcases DataW.trod_slice Tryz.underlying24 h7 with ⟨hcs, hx⟩ | ⟨a, len, cap, elems, rest, k2, rfl, hcs, hx, _, hlc, _, hel, hed, _, _⟩
    · simp only [List.cons.injEq, and_true] at hcs
      subst hcs
      refine ⟨⟨k, op, v, t.data.toList, nm.data.toList, cl, ty, []⟩, none, 0, ?_, gat_leaf _ rfl _, Nat.le_refl _, bd_leaf hb rfl _, ?_⟩
      · simp only [arr_back, List.length_nil]
      · rw [sz_leaf rfl]
        omega
    · simp only [List.cons.injEq, and_true] at hcs
      subst hcs
      rw [hx] at hbk ⊢
      simp only [Rows.uptoBulk] at hbk ⊢
      have hlv : (k2 + 1 + 1) / 2 = k2 / 2 + 1 := by omega
      rw [hlv]
      have hsp0 : 0 < len → a.spot = none := fun hp => by
        have hb1 := hed 0 hp
        rw [List.getElem?_eq_getElem (show 0 < elems.length by omega), cellsOfX] at hb1
        cases hc : W.cells? 0 (a.add (0 * 10)) 10 with
        | none => rw [hc] at hb1; simp at hb1
        | some cs' =>
          obtain ⟨_, hl2, hcell⟩ := World.cells?_some hc
          have hc0 := hcell 0 (by omega)
          rw [List.getElem?_eq_getElem (show 0 < cs'.length by omega)] at hc0
          simpa [Addr.add] using World.cell?_spot hc0
      obtain ⟨l, hll, hP⟩ := pick_list (P := fun i z => ∀ hi : i < elems.length, (∃ q c, GC W a.block (a.off + i * 10) z q c ∧ GAt W (k2 / 2) z q ∧ z.xs.length ≤ c) ∧ BdN (k2 / 2) z ∧ szN (k2 / 2) z ≤ Rows.uptoBulk elems[i].1) len (fun i hi => by
        have hi' : i < elems.length := by omega
        have hb1 := hed i hi
        rw [List.getElem?_eq_getElem hi', cellsOfX] at hb1
        cases hc : W.cells? 0 (a.add (i * 10)) 10 with
        | none => rw [hc] at hb1; simp at hb1
        | some cs' =>
          rw [hc] at hb1
          have hb2 : DataW.trod enc Tryz.prog W 0 (fun _ => true) true k2 26 cs' = some elems[i] := hb1
          have hbi := bulk_mem (H := H) (List.mem_map_of_mem (f := fun y : DataW H × List MemPlace => y.1) (List.getElem_mem hi'))
          obtain ⟨z, q, c, rfl, gz, hzc, bz, sz⟩ := ih k2 (by omega) cs' _ hb2 (by omega)
          obtain ⟨_, _, hcell⟩ := World.cells?_some hc
          have hspot := hsp0 (by omega)
          obtain ⟨ab, ao, as'⟩ := a
          simp only at hspot
          subst hspot
          simp only [add_plx] at hcell
          refine ⟨z, fun _ => ⟨⟨q, c, ⟨hcell 0 (by omega), hcell 1 (by omega), hcell 2 (by omega), hcell 3 (by omega), hcell 4 (by omega), hcell 5 (by omega), hcell 6 (by omega), hcell 7 (by omega), hcell 8 (by omega), hcell 9 (by omega)⟩, gz, hzc⟩, bz, sz⟩⟩)
      have hle := bulk_len (elems.map fun y : DataW H × List MemPlace => y.1)
      rw [List.length_map] at hle
      have hsum := sum_bulk (H := H) (f := szN (k2 / 2)) (l := l) (ds := elems.map fun y : DataW H × List MemPlace => y.1) (by rw [List.length_map]; omega) (fun i hi hi' => by
        rw [List.getElem_map]
        exact (hP i hi (by omega)).2.2)
      refine ⟨⟨k, op, v, t.data.toList, nm.data.toList, cl, ty, l⟩, some a, cap, ?_, ?_, by show l.length ≤ cap; omega, ⟨hb, fun z hz => ?_⟩, ?_⟩
      · simp only [arr_back, hll]
      · refine ⟨by show l.length ≤ _; omega, ?_⟩
        by_cases h0 : l = []
        · exact Or.inl h0
        · right
          have hpos := List.length_pos_iff.2 h0
          obtain ⟨ab, ao, as'⟩ := a
          have hspot := hsp0 (by omega)
          simp only at hspot
          subst hspot
          exact ⟨ab, ao, rfl, fun i hi => (hP i hi (by have : i < l.length := hi; omega)).1⟩
      · obtain ⟨i, hi, rfl⟩ := List.getElem_of_mem hz
        exact (hP i hi (by have : i < l.length := hi; omega)).2.1
      · show 1 + (l.map (szN (k2 / 2))).sum ≤ _
        omega
theorem open_expr {H : Type} {enc : TypeId × Value → H} {W : World} {r : Reach} {b0 : Nat} {v : Value} {d : DataW H} {pl : List MemPlace} (hv : Value.okWide Tryz.prog W r b0 26 v)
    (h : DataW.Trod enc Tryz.prog W 0 (fun _ => true) true 26 v d pl) (hk : Rows.uptoBulk d ≤ 1048576) :
    ∃ (m : Nat) (e : Gx) (p : Option Addr) (c : Nat), v = gV e p c ∧ GAt W m e p ∧ e.xs.length ≤ c ∧ BdN m e ∧ szN m e ≤ 1048576 := by
  obtain ⟨cs, rfl, hsz⟩ := okWide_struct Tryz.underlying26 hv
  obtain ⟨fuel, hf⟩ := h
  obtain ⟨e, p, c, hcs, h1, h2, h3, h4⟩ := trod_expr fuel _ _ hf hk
  refine ⟨fuel / 2, e, p, c, ?_, h1, h2, h3, Nat.le_trans h4 hk⟩
  have e' : cs.toList = [.int .i64 e.k, .int .i64 e.op, .int .i64 e.v.k, .int .i64 e.v.n, .string e.v.s, .string ⟨e.t.toArray⟩, .string ⟨e.n.toArray⟩, .int .i64 e.c, .int .i64 e.y, .slice p e.xs.length c] := by simpa [Value.cells] using hcs
  congr 1
  exact Array.toList_inj.1 e'
end Go.Proofs.YtblkhlhhlalbkaaGreatDoor
namespace Go.Proofs.YtblkhlhhlalbkaaGreatDoor
open Go.ChangeShapes Go.WideShapes Go.ChangeAt Go.RowKit
set_option linter.unusedVariables false
set_option maxRecDepth 20000

theorem own : ownKnob Tryz.prog.godebug = none := by kernel_rfl
theorem laidOut : laidOutB Tryz.prog = true := by kernel_rfl

def dataL : List (String × DataW Unit) := [("math/bits.deBruijn32tab", Rows.laid_math_bits_deBruijn32tab), ("math/bits.deBruijn64tab", Rows.laid_math_bits_deBruijn64tab), ("internal/strconv.uint64pow10", Rows.laid_internal_strconv_uint64pow10), ("unicode/utf8.acceptRanges", Rows.laid_unicode_utf8_acceptRanges), ("strconv.ErrRange", Rows.laid_strconv_ErrRange), ("strconv.ErrSyntax", Rows.laid_strconv_ErrSyntax), ("quarry/expr.operators", Rows.laid_quarry_expr_operators), ("quarry/expr.calls", Rows.laid_quarry_expr_calls), ("unicode.CaseRanges", Rows.laid_unicode_CaseRanges), ("unicode/utf8.first", Rows.laid_unicode_utf8_first)]
def laidL : List (String × DataW Unit) := [("math/bits.deBruijn32tab", Rows.laid_math_bits_deBruijn32tab), ("math/bits.deBruijn64tab", Rows.laid_math_bits_deBruijn64tab), ("internal/strconv.uint64pow10", Rows.laid_internal_strconv_uint64pow10), ("unicode/utf8.acceptRanges", Rows.laid_unicode_utf8_acceptRanges), ("strconv.ErrRange", Rows.laid_strconv_ErrRange), ("strconv.ErrSyntax", Rows.laid_strconv_ErrSyntax), ("quarry/expr.operators", Rows.laid_quarry_expr_operators), ("quarry/expr.calls", Rows.laid_quarry_expr_calls), ("unicode.CaseRanges", Rows.laid_unicode_CaseRanges), ("unicode/utf8.first", Rows.laid_unicode_utf8_first)]

theorem filt0 : (laidL.filter fun x => x.2.handleName?.isNone) = dataL := rfl
theorem filt1 : (laidL.filter fun x => x.2.handleName?.isSome) = [] := rfl
theorem parts_of {W : World} (h : laidMetH Tryz.prog laidL W) : laidMet Tryz.prog dataL W ∧ handlesMet Tryz.prog [] W :=
  ⟨by unfold laidMetH at h; rw [filt1] at h; exact h, fun x hx => by cases hx⟩

theorem laidMet_tail {P : Program} {x : String × DataW Unit} {r : List (String × DataW Unit)} {W : World} (h : laidMet P (x :: r) W) : laidMet P r W := by
  obtain ⟨ps, ⟨g, t, cs, fuel, p, q, h1, h2, h3, h4, h5, e⟩, hn, hr⟩ := h
  subst e
  refine ⟨q, h5, (List.nodup_append.1 hn).2.1, fun b off hp => hr b off (List.mem_append_right _ hp)⟩

theorem gRng : Tryz.prog.globalNamed "strconv.ErrRange" = some 5 := by kernel_rfl
theorem gRngT : (Tryz.prog.globals[5]?).map (·.type) = some 87 := by kernel_rfl
theorem starES : "*" ++ "errors.errorString" = "*errors.errorString" := by decide
theorem namesES (u : TypeId) (h : Tryz.prog.typeName? 3 u = some "*errors.errorString") : u = 231 :=
  typeName_ptr_named (nm := "errors.errorString") (by rw [starES]; kernel_rfl) (by kernel_rfl) (by decide) u (by rw [starES]; exact h)
theorem rdy_of {W : World} (h : laidMetH Tryz.prog laidL W) : Rdy W := by
  have h5 := laidMet_tail (laidMet_tail (laidMet_tail (laidMet_tail (parts_of h).1)))
  obtain ⟨a, s, hv, _⟩ := laid_sentinel h5 gRng gRngT Tryz.underlying87 namesES
    Tryz.underlying231 Tryz.underlying233 rfl rfl Tryz.underlying9 (by kernel_rfl) (by kernel_rfl)
  have := World.var?_cell gRng hv 0
  exact ⟨⟨231, .pointer (some a), by simpa using this⟩⟩

/-! ### A world in which all of them lie -/
def lxOf (P : Program) (W : World) : World := W.layVars P dataL
theorem lxW_os (os : Os) : (lxOf Tryz.prog (World.holding Tryz.prog os ⟨#[], #[], []⟩)).os = os := (World.layVars_os _ _ _).trans rfl
theorem greatAll : (dataL.filter fun x => (dataL.map (·.1)).contains x.1) = dataL := List.filter_eq_self.2 fun x hx => List.contains_iff_mem.2 (List.mem_map.2 ⟨x, hx, rfl⟩)
theorem greatNone : (dataL.filter fun x => !(dataL.map (·.1)).contains x.1) = [] := List.filter_eq_nil_iff.2 fun x hx => by rw [List.contains_iff_mem.2 (List.mem_map.2 ⟨x, hx, rfl⟩)]; simp
set_option maxRecDepth 100000 in
theorem lxFits (os : Os) : ((World.holding Tryz.prog os ⟨#[], #[], []⟩)).layFits Tryz.prog dataL [] = true := by kernel_rfl
set_option maxRecDepth 100000 in
theorem lxIfaces (os : Os) : ((World.holding Tryz.prog os ⟨#[], #[], []⟩)).layIfaces Tryz.prog dataL (lxOf Tryz.prog (World.holding Tryz.prog os ⟨#[], #[], []⟩)) = true := by kernel_rfl
theorem lxData (os : Os) : laidMet Tryz.prog dataL (lxOf Tryz.prog (World.holding Tryz.prog os ⟨#[], #[], []⟩)) :=
  laidMet_layVars (w0 := (World.holding Tryz.prog os ⟨#[], #[], []⟩)) (dataL.map (·.1)) [] (by rw [greatAll]; rfl) (by rw [greatAll]; exact lxFits os) (by rw [greatAll]; exact lxIfaces os) (by rw [greatNone]; exact LaidIn.none)
set_option maxRecDepth 100000 in
theorem lxHandle (os : Os) (args : Array Value) : ([] : List (String × DataW Unit)).all (handleAtB Tryz.prog ((lxOf Tryz.prog (World.holding Tryz.prog os ⟨#[], #[], []⟩)).forCall (fun _ _ => 0) ⟨#[], args, []⟩).memory) = true := by kernel_rfl
theorem lxMet (os : Os) (args : Array Value) : laidMetH Tryz.prog laidL ((lxOf Tryz.prog (World.holding Tryz.prog os ⟨#[], #[], []⟩)).forCall (fun _ _ => 0) ⟨#[], args, []⟩).memory :=
  laidMetH_of_parts (by rw [filt0]; exact (lxData os).of_heap (by simp [World.memory, World.forCall, Input.heap])) (by rw [filt1]; exact lxHandle os args)
set_option maxRecDepth 100000 in
theorem lxShaped (os : Os) (args : Array Value) : ((lxOf Tryz.prog (World.holding Tryz.prog os ⟨#[], #[], []⟩)).forCall (fun _ _ => 0) ⟨#[], args, []⟩).Shaped Tryz.prog := World.shaped_of_ZipB (by kernel_rfl) (by kernel_rfl)
/-- An input that fits. -/
theorem lxWitness {H : Type} {enc : TypeId × Value → H} {os : Os} {f : FuncId} {fn : Func} {s : OpenSpec} {conds : List PathCond} (args : Array Value)
    (hok : Input.okWideB Tryz.prog ((lxOf Tryz.prog (World.holding Tryz.prog os ⟨#[], #[], []⟩)).forCall (fun _ _ => 0) ⟨#[], args, []⟩) f ⟨#[], args, []⟩ = true)
    (hrow : s.preRow enc Tryz.prog fn conds false laidL ((lxOf Tryz.prog (World.holding Tryz.prog os ⟨#[], #[], []⟩)).forCall (fun _ _ => 0) ⟨#[], args, []⟩).memory args) :
    ∃ (w : World) (tape : Tape) (i : Input), w.os = os ∧ (w.forCall tape i).Shaped Tryz.prog ∧ i.vars = [] ∧ Input.okWide Tryz.prog (w.forCall tape i) .any w.heap.size f i ∧
      s.preRow enc Tryz.prog fn conds false laidL (w.forCall tape i).memory i.args ∧ ({} : Assume).holds Tryz.prog (lone (Frame.enter Tryz.prog f i.args .normal) [] (w.forCall tape i)) :=
  ⟨lxOf Tryz.prog (World.holding Tryz.prog os ⟨#[], #[], []⟩), fun _ _ => 0, ⟨#[], args, []⟩, lxW_os os, lxShaped os args, (Input.okWide_of_okWideB (base := 0) hok).1, (Input.okWide_of_okWideB hok).2, hrow, by simp [Assume.holds]⟩

/-! ### The library's tables, and the program's -/
theorem vars_read {P : Program} {w : World} : ∀ {l : List (String × DataW Unit)} {ps : List MemPlace}, DataW.LaidVars P w l ps → ∀ n d, (n, d) ∈ l →
    ∃ g t cs fuel p, P.globalNamed n = some g ∧ (P.globals[g]?).map (·.type) = some t ∧ w.var? P n = some cs ∧ DataW.trod (fun _ => ()) P w 0 (fun _ => true) false fuel t cs.toList = some (d, p)
  | [], _, _, _, _, hm => by cases hm
  | (n', d') :: r, ps, h, n, d, hm => by
    obtain ⟨g, t, cs, fuel, p, q, h1, h2, h3, h4, h5, _⟩ := h
    rcases List.mem_cons.1 hm with e | e
    · cases e
      exact ⟨g, t, cs, fuel, p, h1, h2, h3, h4⟩
    · exact vars_read h5 n d e
theorem powData : (Rows.laid_internal_strconv_uint64pow10 : DataW Unit) = Lib.tabData .u64 Lib.pow10Tab := by kernel_rfl
theorem gPowType : (Tryz.prog.globals[6]?).map (·.type) = some 219 := by kernel_rfl
theorem cellsPow : Tryz.prog.cellsOf 219 = 20 := by kernel_rfl
theorem cellsU64 : Tryz.prog.cellsOf 48 = 1 := by kernel_rfl
theorem ready_of {W : World} (h : laidMetH Tryz.prog laidL W) (hsh : W.ShapedOpen Tryz.prog) : Ready W := by
  refine ⟨Tryz.laysM155.s1_3 W hsh, ?_⟩
  obtain ⟨ps, hL, _⟩ := (parts_of h).1
  obtain ⟨g, t, cs, fuel, p, h1, h2, h3, h4⟩ := vars_read hL "internal/strconv.uint64pow10" Rows.laid_internal_strconv_uint64pow10 (List.mem_cons_of_mem _ (List.mem_cons_of_mem _ List.mem_cons_self))
  obtain rfl := Option.some.inj (gPow.symm.trans h1)
  obtain rfl := Option.some.inj (gPowType.symm.trans h2)
  rw [powData] at h4
  unfold Lib.TabIs
  rw [h3, ← Lib.cells_of_tab Tryz.underlying219 Tryz.underlying48 cellsU64 cellsPow h4]

/-- A number's or a text's value. -/
def vOf : DataW Unit → Value
  | .lit (.int k n) => .int k n
  | .lit (.string s) => .string ⟨s.toArray⟩
  | _ => .nilIface
def unAgg : DataW Unit → List (DataW Unit)
  | .agg l => l
  | _ => []
def Sc (P : Program) (u : TypeId) : Prop := (∃ k, P.underlying u = some (.int k)) ∨ P.underlying u = some .string
theorem sc_of {enc : TypeId × Value → Unit} {P : Program} {w : World} {base : Nat} {spare : Nat → Bool} {held : Bool} {fuel : Nat} {u : TypeId} {cs : List Value} {x : DataW Unit × List MemPlace}
    (hs : Sc P u) (h : DataW.trod enc P w base spare held fuel u cs = some x) : cs = [vOf x.1] := by
  rcases hs with ⟨k, hs⟩ | hs
  · obtain ⟨n, rfl, rfl, _⟩ := DataW.trod_int hs h
    rfl
  · obtain ⟨s, rfl, rfl, _⟩ := DataW.trod_string hs h
    simp [vOf]
theorem chunks {α : Type} (m : Nat) : ∀ (n : Nat) (cs : List α), (List.range n).flatMap (fun i => (cs.drop (i * m)).take m) = cs.take (n * m)
  | 0, cs => by simp
  | n + 1, cs => by
    rw [List.range_succ, List.flatMap_append, chunks m n cs, Nat.succ_mul, List.take_add]
    simp
theorem chunks1 {α : Type} : ∀ (cs : List α), (List.range cs.length).flatMap (fun i => (cs.drop i).take 1) = cs := by
  intro cs
  have := chunks 1 cs.length cs
  simpa using this
theorem struct_of {enc : TypeId × Value → Unit} {P : Program} {w : World} {base : Nat} {spare : Nat → Bool} {held : Bool} {fuel : Nat} {u : TypeId} {fs : Array Field} {cs : List Value} {x : DataW Unit × List MemPlace}
    (hu : P.underlying u = some (.struct fs)) (hc : P.cellsOf u = fs.size) (hf : ∀ i (f : Field), fs[i]? = some f → f.offset = i ∧ P.cellsOf f.type = 1 ∧ Sc P f.type)
    (h : DataW.trod enc P w base spare held fuel u cs = some x) : cs = (unAgg x.1).map vOf := by
  obtain ⟨xs, n, _, rfl, hl, hlen, hx⟩ := DataW.trod_struct hu h
  rw [hc] at hl
  refine List.ext_getElem? fun i => ?_
  simp only [unAgg, List.map_map]
  by_cases hi : i < fs.size
  · obtain ⟨ho, h1, hs⟩ := hf i fs[i] (by simp [hi])
    have h2 := hx i fs[i] (by simp [hi])
    rw [ho, h1] at h2
    have hi' : i < xs.length := by omega
    rw [List.getElem?_eq_getElem hi'] at h2
    have h3 := sc_of hs h2
    have h4 : ((cs.drop i).take 1)[0]? = some (vOf xs[i].1) := by rw [h3]; rfl
    have h5 : cs[i]? = some (vOf xs[i].1) := by simpa [List.getElem?_take, List.getElem?_drop] using h4
    rw [h5]
    simp [hi']
  · rw [List.getElem?_eq_none (by omega), List.getElem?_eq_none (by simp; omega)]
theorem array_of {enc : TypeId × Value → Unit} {P : Program} {w : World} {base : Nat} {spare : Nat → Bool} {held : Bool} {fuel : Nat} {u e : TypeId} {n : Nat} {fs : Array Field} {cs : List Value} {x : DataW Unit × List MemPlace}
    (ha : P.underlying u = some (.array n e)) (hca : P.cellsOf u = n * P.cellsOf e) (hu : P.underlying e = some (.struct fs)) (hc : P.cellsOf e = fs.size) (hf : ∀ i (f : Field), fs[i]? = some f → f.offset = i ∧ P.cellsOf f.type = 1 ∧ Sc P f.type)
    (h : DataW.trod enc P w base spare held fuel u cs = some x) : cs = (unAgg x.1).flatMap fun d => (unAgg d).map vOf := by
  obtain ⟨xs, m, _, rfl, hl, hlen, hx⟩ := DataW.trod_array ha h
  have h1 := chunks (P.cellsOf e) n cs
  rw [← hca, ← hl, List.take_length] at h1
  rw [← h1]
  subst hlen
  simp only [unAgg, List.flatMap_map]
  have h2 : ∀ i (hi : i < xs.length), (cs.drop (i * P.cellsOf e)).take (P.cellsOf e) = (unAgg xs[i].1).map vOf := fun i hi => by
    have := hx i hi
    rw [List.getElem?_eq_getElem hi] at this
    exact struct_of hu hc hf this
  have h3 : (List.range xs.length).map (fun i => (cs.drop (i * P.cellsOf e)).take (P.cellsOf e)) = xs.map fun y => (unAgg y.1).map vOf := by
    refine List.ext_getElem (by simp) fun i h4 h5 => ?_
    have hi : i < xs.length := by simpa using h5
    simp [h2 i hi]
  have h4 := congrArg List.flatten h3
  rw [List.flatMap_def, List.flatMap_def]
  exact h4
theorem var_block {P : Program} {w : World} {g : Nat} {t : TypeId} {zero : Array Value} {name : String} {cs : Array Value} (h : w.ShapedOpen P) (hg : g < P.globals.size)
    (h0 : ((begin P (fun _ _ => 0) default).world.heap[g]?).bind Obj.row? = some (zero, t)) (hn : P.globalNamed name = some g) (hv : w.var? P name = some cs) : w.heap[g]? = some (.cells cs t (0, 0)) := by
  obtain ⟨cs', hh, _⟩ := h.1 g zero t hg h0
  unfold World.var? at hv
  rw [hn] at hv
  simp only [Option.bind_some, hh, Option.some.injEq] at hv
  subst hv
  exact hh
theorem gOpr : Tryz.prog.globalNamed "quarry/expr.operators" = some 0 := by kernel_rfl
theorem gCal : Tryz.prog.globalNamed "quarry/expr.calls" = some 1 := by kernel_rfl
theorem gOprType : (Tryz.prog.globals[0]?).map (·.type) = some 172 := by kernel_rfl
theorem gCalType : (Tryz.prog.globals[1]?).map (·.type) = some 185 := by kernel_rfl
theorem cOpr16 : Tryz.prog.cellsOf 172 = 80 := by kernel_rfl
theorem cOpr1 : Tryz.prog.cellsOf 132 = 5 := by kernel_rfl
theorem cCal10 : Tryz.prog.cellsOf 185 = 40 := by kernel_rfl
theorem cCal1 : Tryz.prog.cellsOf 161 = 4 := by kernel_rfl
theorem cInt1 : Tryz.prog.cellsOf 3 = 1 := by kernel_rfl
theorem cStr1 : Tryz.prog.cellsOf 9 = 1 := by kernel_rfl
set_option maxRecDepth 100000 in
theorem rOpr : ∃ zero, ((begin Tryz.prog (fun _ _ => 0) default).world.heap[0]?).bind Obj.row? = some (zero, 172) := ⟨(oprs.flatMap fun _ => [.int .i64 0, .int .i64 0, .int .i64 0, .string ⟨#[]⟩, .int .i64 0]).toArray, by kernel_rfl⟩
set_option maxRecDepth 100000 in
theorem rCal : ∃ zero, ((begin Tryz.prog (fun _ _ => 0) default).world.heap[1]?).bind Obj.row? = some (zero, 185) := ⟨(cals.flatMap fun _ => [.int .i64 0, .int .i64 0, .string ⟨#[]⟩, .int .i64 0]).toArray, by kernel_rfl⟩
theorem lOpr : ((unAgg Rows.laid_quarry_expr_operators).flatMap fun d => (unAgg d).map vOf) = oprs.flatMap oprV := by kernel_rfl
theorem lCal : ((unAgg Rows.laid_quarry_expr_calls).flatMap fun d => (unAgg d).map vOf) = cals.flatMap calV := by kernel_rfl
theorem scI : Sc Tryz.prog 3 := Or.inl ⟨_, Tryz.underlying3⟩
theorem scS : Sc Tryz.prog 9 := Or.inr Tryz.underlying9
theorem gl_of {W : World} (h : laidMetH Tryz.prog laidL W) (hsh : W.ShapedOpen Tryz.prog) : Gl W := by
  obtain ⟨ps, hL, _⟩ := (parts_of h).1
  constructor
  · obtain ⟨g, t, cs, fuel, p, h1, h2, h3, h4⟩ := vars_read hL "quarry/expr.operators" Rows.laid_quarry_expr_operators (by unfold dataL; simp)
    obtain rfl := Option.some.inj (gOpr.symm.trans h1)
    obtain rfl := Option.some.inj (gOprType.symm.trans h2)
    have h5 := array_of Tryz.underlying172 (by rw [cOpr16, cOpr1]) Tryz.underlying132 (by rw [cOpr1]; rfl) (fun i f hf => by
      match i, hf with
      | 0, hf => cases hf; exact ⟨rfl, cInt1, scI⟩
      | 1, hf => cases hf; exact ⟨rfl, cInt1, scI⟩
      | 2, hf => cases hf; exact ⟨rfl, cInt1, scI⟩
      | 3, hf => cases hf; exact ⟨rfl, cStr1, scS⟩
      | 4, hf => cases hf; exact ⟨rfl, cInt1, scI⟩
      | n + 5, hf => cases hf) h4
    rw [lOpr] at h5
    obtain ⟨zero, h0⟩ := rOpr
    have h6 := var_block hsh (of_decide_eq_true (by kernel_rfl)) h0 gOpr h3
    rw [h6, ← h5]
  · obtain ⟨g, t, cs, fuel, p, h1, h2, h3, h4⟩ := vars_read hL "quarry/expr.calls" Rows.laid_quarry_expr_calls (by unfold dataL; simp)
    obtain rfl := Option.some.inj (gCal.symm.trans h1)
    obtain rfl := Option.some.inj (gCalType.symm.trans h2)
    have h5 := array_of Tryz.underlying185 (by rw [cCal10, cCal1]) Tryz.underlying161 (by rw [cCal1]; rfl) (fun i f hf => by
      match i, hf with
      | 0, hf => cases hf; exact ⟨rfl, cInt1, scI⟩
      | 1, hf => cases hf; exact ⟨rfl, cInt1, scI⟩
      | 2, hf => cases hf; exact ⟨rfl, cStr1, scS⟩
      | 3, hf => cases hf; exact ⟨rfl, cInt1, scI⟩
      | n + 4, hf => cases hf) h4
    rw [lCal] at h5
    obtain ⟨zero, h0⟩ := rCal
    have h6 := var_block hsh (of_decide_eq_true (by kernel_rfl)) h0 gCal h3
    rw [h6, ← h5]
theorem ew_of {W : World} (h : laidMetH Tryz.prog laidL W) (hsh : W.ShapedOpen Tryz.prog) : Ew W := ⟨⟨gl_of h hsh, ready_of h hsh⟩, rdy_of h⟩
end Go.Proofs.YtblkhlhhlalbkaaGreatDoor
