/- What the small functions of the reader of package expr do: token, stands, take, throw, must, deeper. Conditions: none. What Ended, Fault, Must and deeper of the reader of package expr do. Conditions: none. What operator of the reader of package expr does. Conditions: none. -/
import Derived.Test.YtblkhlhhlalbkaaGreatDoorEB
import Derived.BigQuiet
import Derived.Deep.QuietTactic
import Derived.Deep.Cut
import Derived.WalkMore
import Derived.Deep.RegionHeldLaw
import Derived.Deep.RegionHeld
import Derived.Laws.Rows
namespace Go.Proofs.YtblkhlhhlalbkaaGreatDoor
open Go.RowKit Go.Lib Go.Sort
set_option linter.unusedVariables false
set_option maxRecDepth 20000

/-- The word that stands so many behind. -/
def tokV (l : Ts) (k : Nat) : Value := match l[k]? with
  | some x => .agg #[.int .i64 x.1.k, .string ⟨x.1.s.toArray⟩, .int .i64 (x.2 : Int), .int .i64 x.1.n]
  | none => .agg #[.int .i64 0, .string ⟨#[]⟩, .int .i64 0, .int .i64 0]
theorem RS.tok {w : World} {rb : Nat} {p : Option Addr} {c : Nat} {xs l : Ts} {d : Nat} (h : RS w rb p c xs l d) {k : Nat} {x : Tk × Nat} (hk : l[k]? = some x) :
    ∃ b off, p = some ⟨b, off, none⟩ ∧ w.cell? ⟨b, off + (xs.length - l.length + k) * 4, none⟩ = some (.int .i64 x.1.k) ∧ w.cell? ⟨b, off + (xs.length - l.length + k) * 4 + 1, none⟩ = some (.string ⟨x.1.s.toArray⟩) ∧ w.cell? ⟨b, off + (xs.length - l.length + k) * 4 + 2, none⟩ = some (.int .i64 (x.2 : Int)) ∧ w.cell? ⟨b, off + (xs.length - l.length + k) * 4 + 3, none⟩ = some (.int .i64 x.1.n) := by
  obtain ⟨a, ha⟩ := h.suf
  have hl : k < l.length := (List.getElem?_eq_some_iff.1 hk).1
  have e : xs.length - l.length = a.length := by rw [← ha]; simp
  have hi : a.length + k < xs.length := by rw [← ha]; simp; omega
  have hx : xs[a.length + k] = x := by
    have : xs[a.length + k]? = some x := by rw [← ha, List.getElem?_append_right (by omega)]; simpa using hk
    exact (List.getElem?_eq_some_iff.1 this).2
  obtain ⟨b, off, hp, q⟩ := h.tr.at hi
  rw [hx] at q
  rw [e]
  exact ⟨b, off, hp, q⟩
set_option maxHeartbeats 4000000 in
theorem token_any {w : World} {rb : Nat} {p : Option Addr} {c : Nat} {xs l : Ts} {d : Nat} (k : Nat) (h : RS w rb p c xs l d) (hk : k ≤ 1) :
    Calls Tryz.prog 138 #[.pointer (some ⟨rb, 0, none⟩), .int .i64 (k : Int)] w fun e w' => e = .returned (tokV l k) ∧ Below w.heap.size w w' := by
  have hsz : l.length ≤ xs.length := h.suf.length_le
  have hlen := h.len
  have hb := h.lt
  have c0 := h.c0
  have c1 := h.c1
  have hw : IntKind.i64.wrap ((xs.length : Int) - (l.length : Int) + (k : Int)) = (xs.length : Int) - (l.length : Int) + (k : Int) := by rw [IntKind.wrap_i64]; omega
  unfold tokV
  cases hx : l[k]? with
  | some x =>
    obtain ⟨b, off, rfl, q0, q1, q2, q3⟩ := h.tok hx
    have hkl : k < l.length := (List.getElem?_eq_some_iff.1 hx).1
    generalize hI : (xs.length : Int) - (l.length : Int) + (k : Int) = I at *
    have hlt : I < (xs.length : Int) := by omega
    have h0 : 0 ≤ I := by omega
    obtain ⟨i, hi⟩ : ∃ i : Nat, I = i := ⟨I.toNat, by omega⟩
    have hii : xs.length - l.length + k = i := by omega
    rw [hii] at q0 q1 q2 q3
    clear h hx
    have hlt' : (i : Int) < (xs.length : Int) := by omega
    subst hi
    have z0 : (off + i * 4 : Nat) = off + i * 4 := rfl
    generalize hL : xs.length = L at *
    go_enter Tryz.func138, Tryz.ntmps138
    go_upto_region 1 with fail
    go_quiet (fail)
    have hbb : b < w.heap.size := cell_lt q0
    generalize (l.length : Int) = A at *
    clear hsz hkl hii hk z0
    go_upto_region 2 with fail
    go_region
    all_goals
      go_wp2
      refine bodyPost_ret (by simp [results, Tryz.results138, go_sem]; try rfl) rfl ?_
      refine ⟨rfl, ?_⟩
      go_grown
      exact below_drewN (by go_grown) _
  | none =>
    have hkl : l.length ≤ k := List.getElem?_eq_none_iff.1 hx
    have hlt : ¬ (xs.length : Int) - (l.length : Int) + (k : Int) < (xs.length : Int) := by omega
    clear h hx
    go_enter Tryz.func138, Tryz.ntmps138
    go_upto_region 1 with fail
    go_quiet (fail)
    go_wp2
    refine bodyPost_ret (by simp [results, Tryz.results138, go_sem]; try rfl) rfl ?_
    refine ⟨rfl, ?_⟩
    go_grown
    exact below_drewN (by go_grown) _
theorem stn_tok (k : Int) (s : List UInt8) (hk : k ≠ 0) (l : Ts) : ∃ a t i n, tokV l 0 = .agg #[.int .i64 a, .string ⟨List.toArray t⟩, .int .i64 i, .int .i64 n] ∧ stn k s l = (a == k && t == s) ∧ (l = [] → a = 0) := by
  cases l with
  | nil => exact ⟨0, [], 0, 0, rfl, by have : ((0 : Int) == k) = false := beq_eq_false_iff_ne.2 (Ne.symm hk); simp [stn, this], fun _ => rfl⟩
  | cons x r => exact ⟨x.1.k, x.1.s, x.2, x.1.n, rfl, rfl, fun h => by cases h⟩
theorem token0 {w : World} {rb : Nat} {p : Option Addr} {c : Nat} {xs l : Ts} {d : Nat} (h : RS w rb p c xs l d) :
    Calls Tryz.prog 138 #[.pointer (some ⟨rb, 0, none⟩), .int .i64 0] w fun e w' => e = .returned (tokV l 0) ∧ Below w.heap.size w w' := token_any 0 h (by decide)
theorem token1 {w : World} {rb : Nat} {p : Option Addr} {c : Nat} {xs l : Ts} {d : Nat} (h : RS w rb p c xs l d) :
    Calls Tryz.prog 138 #[.pointer (some ⟨rb, 0, none⟩), .int .i64 1] w fun e w' => e = .returned (tokV l 1) ∧ Below w.heap.size w w' := token_any 1 h (by decide)
set_option maxHeartbeats 4000000 in
theorem stands_any {w : World} {rb : Nat} {p : Option Addr} {c : Nat} {xs l : Ts} {d : Nat} (k : Int) (s : List UInt8) (h : RS w rb p c xs l d) (hk : k ≠ 0) :
    Calls Tryz.prog 134 #[.pointer (some ⟨rb, 0, none⟩), .int .i64 k, .string ⟨s.toArray⟩] w fun e w' => e = .returned (.bool (stn k s l)) ∧ Below w.heap.size w w' := by
  have T := hid (token0 h)
  obtain ⟨a, t, i, n, e, hs, _⟩ := stn_tok k s hk l
  rw [e] at T
  rw [hs]
  clear h e hs
  go_enter Tryz.func134, Tryz.ntmps134
  go_wp2_with (go_at_call 138; with_reducible refine T.out.mono ?_; rintro e w2 ⟨rfl, b2⟩; have B2 := hid b2; clear b2)
  all_goals go_ret
  all_goals rename_i hak
  · refine ⟨?_, B2.out.alloc B2.out.size _⟩
    simp [hak]
  · refine ⟨?_, B2.out.alloc B2.out.size _⟩
    simp [hak]
theorem stn_tail {k : Int} {s : List UInt8} {l : Ts} (h : stn k s l = true) : l.tail.length + 1 = l.length := by
  obtain ⟨x, r, rfl, _⟩ := stn_pos h
  simp
set_option maxHeartbeats 4000000 in
theorem take_any {w : World} {rb : Nat} {p : Option Addr} {c : Nat} {xs l : Ts} {d : Nat} (k : Int) (s : List UInt8) (h : RS w rb p c xs l d) (hk : k ≠ 0) :
    Calls Tryz.prog 145 #[.pointer (some ⟨rb, 0, none⟩), .int .i64 k, .string ⟨s.toArray⟩] w fun e w' => e = .returned (.bool (stn k s l)) ∧ Chg (· = rb) w w' ∧ RS w' rb p c xs (if stn k s l then l.tail else l) d := by
  have T := hid (stands_any k s h hk)
  have H := hid h
  have hsz := h.suf.length_le
  have hlen := h.len
  cases hs : stn k s l with
  | false =>
    rw [hs] at T
    clear h
    go_enter Tryz.func145, Tryz.ntmps145
    go_wp2_with (go_at_call 134; with_reducible refine T.out.mono ?_; rintro e w2 ⟨rfl, b2⟩; have B2 := hid b2; clear b2)
    go_ret
    exact ⟨rfl, Chg.of_below B2.out, H.out.below B2.out⟩
  | true =>
    rw [hs] at T
    have hl := stn_tail hs
    have hw : IntKind.i64.wrap ((xs.length : Int) - (l.length : Int) + 1) = (xs.length : Int) - (l.length : Int) + 1 := by rw [IntKind.wrap_i64]; omega
    have HX : Hid ((xs.length : Int) - (l.length : Int) + 1 = (xs.length : Int) - (l.tail.length : Int)) := by show _ = _; omega
    clear h hl
    go_enter Tryz.func145, Tryz.ntmps145
    go_wp2_with (go_at_call 134; with_reducible refine T.out.mono ?_; rintro e w2 ⟨rfl, b2⟩; have B2 := hid b2; have c1 := (H.out.below b2).c1; have f1 := (H.out.below b2).f 1; clear b2)
    go_ret
    exact ⟨rfl, Chg.setCell (F := (· = rb)) (p := ⟨rb, 1, none⟩) (Chg.of_below B2.out) (Or.inl rfl) _, (H.out.below B2.out).mv (suf_tail.trans H.out.suf) _ HX.out⟩
end Go.Proofs.YtblkhlhhlalbkaaGreatDoor
namespace Go.Proofs.YtblkhlhhlalbkaaGreatDoor
open Go.RowKit Go.Lib Go.Sort
set_option linter.unusedVariables false
set_option maxRecDepth 20000

set_option maxHeartbeats 4000000 in
theorem ended_any {w : World} {rb : Nat} {p : Option Addr} {c : Nat} {xs l : Ts} {d : Nat} (h : RS w rb p c xs l d) :
    Calls Tryz.prog 198 #[.pointer (some ⟨rb, 0, none⟩)] w fun e w' => e = .returned (.bool (l.isEmpty)) ∧ Below w.heap.size w w' := by
  have hsz : l.length ≤ xs.length := h.suf.length_le
  have c0 := h.c0
  have c1 := h.c1
  have hb := h.lt
  cases l with
  | nil =>
    have hge : (xs.length : Int) ≤ (xs.length : Int) - (([] : Ts).length : Int) := by simp
    clear h hsz
    generalize (xs.length : Int) - (([] : Ts).length : Int) = I at *
    go_enter Tryz.func198, Tryz.ntmps198
    go_upto_region 1 with fail
    go_quiet (fail)
    go_wp2
    go_ret
    refine ⟨rfl, ?_⟩
    first | exact below_drewN (Below.refl _ _) _ | (go_grown; done)
  | cons x r =>
    have hge : ¬ ((xs.length : Int) ≤ (xs.length : Int) - ((x :: r : Ts).length : Int)) := by simp only [List.length_cons]; omega
    clear h hsz
    generalize (xs.length : Int) - ((x :: r : Ts).length : Int) = I at *
    go_enter Tryz.func198, Tryz.ntmps198
    go_upto_region 1 with fail
    go_quiet (fail)
    go_wp2
    go_ret
    refine ⟨rfl, ?_⟩
    first | exact below_drewN (Below.refl _ _) _ | (go_grown; done)
theorem albld (w : World) (o : Obj) : Below w.heap.size w (w.alloc o).drew := ((Below.refl _ _).alloc (Nat.le_refl _) _).drew
set_option maxHeartbeats 4000000 in
theorem fault_one {w : World} {rb b off c L m : Nat} {y n : Int} (E : Calls Tryz.prog 198 #[.pointer (some ⟨rb, 0, none⟩)] w fun e w' => e = .returned (.bool false) ∧ Below w.heap.size w w') (hb : rb < w.heap.size) (hm : m < L) (hL : L ≤ 140737488351232) (c0 : w.cell? ⟨rb, 0, none⟩ = some (.slice (some ⟨b, off, none⟩) L c)) (c1 : w.cell? ⟨rb, 1, none⟩ = some (.int .i64 (m : Int))) (q : w.cell? ⟨b, off + m * 4 + 2, none⟩ = some (.int .i64 y)) :
    Calls Tryz.prog 174 #[.pointer (some ⟨rb, 0, none⟩), .int .i64 n] w fun e w' => ∃ b, e = .returned (.pointer (some ⟨b, 0, none⟩)) ∧ Below w.heap.size w w' ∧ Flt w' b y n := by
  have h0 : (0 : Int) ≤ (m : Int) := by omega
  have hlt2 : (m : Int) < (L : Int) := by omega
  have HE := hid E
  have HC := hid (show w.cell? ⟨rb, 0, none⟩ = some (.slice (some ⟨b, off, none⟩) L c) ∧ w.cell? ⟨rb, 1, none⟩ = some (.int .i64 (m : Int)) ∧ w.cell? ⟨b, off + m * 4 + 2, none⟩ = some (.int .i64 y) from ⟨c0, c1, q⟩)
  unfold Flt
  clear E c0 c1 q
  go_enter Tryz.func174, Tryz.ntmps174
  go_upto_region 2 with (go_at_call 198; with_reducible refine HE.out.mono ?_; rintro e w2 ⟨rfl, b2⟩; have B2 := hid b2; have c0 := lxbelow_cell b2 HC.out.1; have c1 := lxbelow_cell b2 HC.out.2.1; have q := lxbelow_cell b2 HC.out.2.2; clear b2)
  go_region_held_law (fun w' => w'.cell? ⟨rb, 0, none⟩ = some (.slice (some ⟨b, off, none⟩) L c) ∧ w'.cell? ⟨rb, 1, none⟩ = some (.int .i64 (m : Int)) ∧ w'.cell? ⟨b, off + m * 4 + 2, none⟩ = some (.int .i64 y)) (first | exact ⟨c0, c1, q⟩ | exact ⟨lxbelow_cell (albld _ _) c0, lxbelow_cell (albld _ _) c1, lxbelow_cell (albld _ _) q⟩ | go_simp | go_keep) (fail)
  all_goals go_wp2_with fail
  all_goals go_ret
  all_goals refine ⟨_, rfl, B2.out.trans ((albld _ _).mono B2.out.size), ?_, ?_⟩
  all_goals simp [go_sem]
set_option maxHeartbeats 4000000 in
theorem fault_last {w : World} {rb b off c L m : Nat} {y z n : Int} (E : Calls Tryz.prog 198 #[.pointer (some ⟨rb, 0, none⟩)] w fun e w' => e = .returned (.bool true) ∧ Below w.heap.size w w') (hb : rb < w.heap.size) (hm : m + 1 = L) (hL : L ≤ 140737488351232) (c0 : w.cell? ⟨rb, 0, none⟩ = some (.slice (some ⟨b, off, none⟩) L c)) (q : w.cell? ⟨b, off + m * 4 + 2, none⟩ = some (.int .i64 y)) (hz : IntKind.i64.wrap (y + 1) = z) :
    Calls Tryz.prog 174 #[.pointer (some ⟨rb, 0, none⟩), .int .i64 n] w fun e w' => ∃ b, e = .returned (.pointer (some ⟨b, 0, none⟩)) ∧ Below w.heap.size w w' ∧ Flt w' b z n := by
  have h0 : (0 : Int) ≤ (m : Int) := by omega
  have hlt2 : (m : Int) < (L : Int) := by omega
  have hw : IntKind.i64.wrap ((L : Int) - 1) = (m : Int) := by rw [IntKind.wrap_i64]; omega
  have hne : ((L : Int) == 0) = false := beq_eq_false_iff_ne.2 (by omega)
  have HE := hid E
  have HC := hid (show w.cell? ⟨rb, 0, none⟩ = some (.slice (some ⟨b, off, none⟩) L c) ∧ w.cell? ⟨b, off + m * 4 + 2, none⟩ = some (.int .i64 y) from ⟨c0, q⟩)
  unfold Flt
  clear E c0 q
  go_enter Tryz.func174, Tryz.ntmps174
  go_upto_region 5 with (go_at_call 198; with_reducible refine HE.out.mono ?_; rintro e w2 ⟨rfl, b2⟩; have B2 := hid b2; have c0 := lxbelow_cell b2 HC.out.1; have q := lxbelow_cell b2 HC.out.2; clear b2)
  go_region_held_law (fun w' => w'.cell? ⟨rb, 0, none⟩ = some (.slice (some ⟨b, off, none⟩) L c) ∧ w'.cell? ⟨b, off + m * 4 + 2, none⟩ = some (.int .i64 y)) (first | exact ⟨c0, q⟩ | exact ⟨lxbelow_cell (albld _ _) c0, lxbelow_cell (albld _ _) q⟩ | go_simp | go_keep) (fail)
  all_goals go_wp2_with fail
  all_goals go_ret
  all_goals refine ⟨_, rfl, B2.out.trans ((albld _ _).mono B2.out.size), ?_, ?_⟩
  all_goals simp [go_sem]
theorem fault_any {w : World} {rb : Nat} {p : Option Addr} {c : Nat} {xs l : Ts} {d : Nat} (n : Int) (h : RS w rb p c xs l d) :
    Calls Tryz.prog 174 #[.pointer (some ⟨rb, 0, none⟩), .int .i64 n] w fun e w' => ∃ b, e = .returned (.pointer (some ⟨b, 0, none⟩)) ∧ Below w.heap.size w w' ∧ Flt w' b (plc xs l) n := by
  have hsz : l.length ≤ xs.length := h.suf.length_le
  have E := ended_any h
  cases l with
  | cons x r =>
    obtain ⟨b, off, rfl, q0, q1, q2, q3⟩ := h.tok (k := 0) (x := x) rfl
    simp only [Nat.add_zero, List.length_cons] at q2 hsz
    exact fault_one E h.lt (m := xs.length - (r.length + 1)) (by have := h.nn; omega) h.len h.c0 (h.c1.trans (by simp only [List.length_cons]; congr 2; omega)) q2
  | nil =>
    have hnn := h.nn
    obtain ⟨b, off, rfl, q0, q1, q2, q3⟩ := h.tr.at (i := xs.length - 1) (by omega)
    have hP : plc xs [] = xs[xs.length - 1].2 + 1 := by
      unfold plc
      have : xs.getLast? = some xs[xs.length - 1] := by rw [List.getLast?_eq_getElem?, List.getElem?_eq_getElem (by omega)]
      rw [this]
    rw [hP]
    exact fault_last E h.lt (m := xs.length - 1) (by omega) h.len h.c0 q2 (by rw [IntKind.wrap_i64]; have := h.pls (xs.length - 1) (by omega); omega)
set_option maxHeartbeats 4000000 in
theorem must_any {w : World} {rb : Nat} {p : Option Addr} {c : Nat} {xs l : Ts} {d : Nat} (k : Int) (s : List UInt8) (h : RS w rb p c xs l d) (hk : k ≠ 0) :
    Calls Tryz.prog 175 #[.pointer (some ⟨rb, 0, none⟩), .int .i64 k, .string ⟨s.toArray⟩] w (RdE (fun _ v (_ : Unit) => v = .tuple #[]) rb p c xs d (mustU k s l) w) := by
  have T := hid (take_any k s h hk)
  unfold mustU RdE
  cases hs : stn k s l with
  | true =>
    rw [hs] at T
    go_enter Tryz.func175, Tryz.ntmps175
    go_wp2_with (go_at_call 145; with_reducible refine T.out.mono ?_; rintro e w2 ⟨rfl, c2, r2⟩; have C2 := hid c2; have R2 := hid r2; clear c2 r2)
    exact end0 rfl rfl ⟨C2.out, _, rfl, rfl, R2.out⟩
  | false =>
    rw [hs] at T
    have H := hid h
    clear h
    go_enter Tryz.func175, Tryz.ntmps175
    go_wp2_with (first
      | (go_at_call 145; with_reducible refine T.out.mono ?_; rintro e w2 ⟨rfl, c2, r2⟩; have C2 := hid c2; have R2 := hid r2; have TH := hid (fault_any 20 r2); clear c2 r2)
      | (go_at_call 174; with_reducible refine TH.out.mono ?_; rintro e w3 ⟨bb, rfl, b3, f3⟩))
    exact ⟨rfl, C2.out.trans (Chg.of_below (F := (· = rb)) b3) (fun _ _ q => q), bb, rfl, f3⟩
set_option maxHeartbeats 4000000 in
theorem deeper_no {w : World} {rb : Nat} {p : Option Addr} {c : Nat} {xs l : Ts} (h : RS w rb p c xs l 0) :
    Calls Tryz.prog 133 #[.pointer (some ⟨rb, 0, none⟩)] w fun e w' => Below w.heap.size w w' ∧ ∃ b, e = .panicked (thrF b) ∧ Flt w' b (plc xs l) 21 := by
  have TH := hid (fault_any 21 h)
  have c2 := h.c2
  rw [show (32 : Int) - ((0 : Nat) : Int) = 32 from rfl] at c2
  clear h
  go_enter Tryz.func133, Tryz.ntmps133
  go_wp2_with (go_at_call 174; with_reducible refine TH.out.mono ?_; rintro e w3 ⟨bb, rfl, b3, f3⟩)
  exact ⟨rfl, b3, bb, rfl, f3⟩
set_option maxHeartbeats 4000000 in
theorem deeper_yes {w : World} {rb : Nat} {p : Option Addr} {c : Nat} {xs l : Ts} {d : Nat} (h : RS w rb p c xs l (d + 1)) (hl : l ≠ []) :
    Calls Tryz.prog 133 #[.pointer (some ⟨rb, 0, none⟩)] w fun e w' => e = .returned (.tuple #[]) ∧ Chg (· = rb) w w' ∧ RS w' rb p c xs l.tail d := by
  have H := hid h
  have c1 := h.c1
  have c2 := h.c2
  have f1 := h.f 1
  have f2 := h.f 2
  have hsz := h.suf.length_le
  have hlen := h.len
  have hd := h.dle
  have hlp : 0 < l.length := List.length_pos_iff.2 hl
  have hw1 : IntKind.i64.wrap (32 - ((d + 1 : Nat) : Int) + 1) = 32 - ((d + 1 : Nat) : Int) + 1 := by rw [IntKind.wrap_i64]; omega
  have hw2 : IntKind.i64.wrap ((xs.length : Int) - (l.length : Int) + 1) = (xs.length : Int) - (l.length : Int) + 1 := by rw [IntKind.wrap_i64]; omega
  have hne : ((32 : Int) - ((d + 1 : Nat) : Int) == 32) = false := by rw [beq_eq_false_iff_ne]; omega
  have HX : Hid ((xs.length : Int) - (l.length : Int) + 1 = (xs.length : Int) - (l.tail.length : Int)) := by show _ = _; rw [List.length_tail]; omega
  have HY : Hid (32 - ((d + 1 : Nat) : Int) + 1 = 32 - (d : Int) ∧ d ≤ 32) := by constructor <;> omega
  clear h hd
  generalize (xs.length : Int) - (l.length : Int) = I at *
  generalize (32 : Int) - ((d + 1 : Nat) : Int) = J at *
  go_enter Tryz.func133, Tryz.ntmps133
  go_wp2
  refine end0 rfl rfl ⟨rfl, ?_, ?_⟩
  · exact Chg.setCell (F := (· = rb)) (p := ⟨rb, 1, none⟩) (Chg.setCell (F := (· = rb)) (p := ⟨rb, 2, none⟩) (Chg.refl _ _) (Or.inl rfl) _) (Or.inl rfl) _
  · exact (H.out.dp HY.out.2 _ HY.out.1).mv (suf_tail.trans H.out.suf) _ HX.out
end Go.Proofs.YtblkhlhhlalbkaaGreatDoor
namespace Go.Proofs.YtblkhlhhlalbkaaGreatDoor
open Go.RowKit Go.Lib Go.Sort
set_option linter.unusedVariables false
set_option maxRecDepth 20000

/-- An operator as a value; none: zeroes. -/
def oprO : Option Opr → Value
  | some o => .agg #[.int .i64 o.kind, .int .i64 o.op, .int .i64 o.tok, .string ⟨o.txt.toArray⟩, .int .i64 o.line]
  | none => .agg #[.int .i64 0, .int .i64 0, .int .i64 0, .string ⟨#[]⟩, .int .i64 0]
def oprT : Array Value := (oprs.flatMap oprV).toArray
theorem oprT_size : (Tryz.prog.info? 172).map (·.size) = some oprT.size := by kernel_rfl
theorem oprT_at (w : World) : ∀ (k : Nat) (h : k < 16), (Instr.index 172 (.agg oprT) (.int .i64 ((k : Nat) : Int))).run Tryz.prog w = .ok (oprO oprs[k]?) w
  | 0, _ => by kernel_rfl
  | 1, _ => by kernel_rfl
  | 2, _ => by kernel_rfl
  | 3, _ => by kernel_rfl
  | 4, _ => by kernel_rfl
  | 5, _ => by kernel_rfl
  | 6, _ => by kernel_rfl
  | 7, _ => by kernel_rfl
  | 8, _ => by kernel_rfl
  | 9, _ => by kernel_rfl
  | 10, _ => by kernel_rfl
  | 11, _ => by kernel_rfl
  | 12, _ => by kernel_rfl
  | 13, _ => by kernel_rfl
  | 14, _ => by kernel_rfl
  | 15, _ => by kernel_rfl
  | k + 16, h => by omega
theorem oprs_tok : ∀ o ∈ oprs, o.tok ≠ 0 := by decide
/-- The result's block. -/
def ResO (w : World) (b : Nat) : Prop := w.heap[b]? = some (.cells #[.int .i64 0, .int .i64 0, .int .i64 0, .string ⟨#[]⟩, .int .i64 0] 132 (0, 0))
theorem ResO.below {w w' : World} {b B : Nat} (h : ResO w b) (hB : Below B w w') (hb : b < B) : ResO w' b := (hB.block b hb).trans h
theorem ResO.cells {w : World} {b : Nat} (h : ResO w b) : w.cell? ⟨b, 0, none⟩ = some (.int .i64 0) ∧ w.cell? ⟨b, 1, none⟩ = some (.int .i64 0) ∧ w.cell? ⟨b, 2, none⟩ = some (.int .i64 0) ∧ w.cell? ⟨b, 3, none⟩ = some (.string ⟨#[]⟩) ∧ w.cell? ⟨b, 4, none⟩ = some (.int .i64 0) := by
  refine ⟨?_, ?_, ?_, ?_, ?_⟩ <;> (rw [Lib.cell_of_heap h]; rfl)
theorem ResO.frozen {w : World} {b : Nat} (h : ResO w b) (i : Nat) : w.frozen? ⟨b, i, none⟩ = false := Lib.frozen_of_heap h i
theorem op_after {W w2 : World} {R : Nat} {a b t n : Int} {s : ByteArray} (hR : ResO W R) (b2 : Below (W.alloc (.cells #[.int .i64 a, .int .i64 b, .int .i64 t, .string s, .int .i64 n] 132)).heap.size (W.alloc (.cells #[.int .i64 a, .int .i64 b, .int .i64 t, .string s, .int .i64 n] 132)) w2) :
    (w2.cell? ⟨W.heap.size, 0, none⟩ = some (.int .i64 a) ∧ w2.cell? ⟨W.heap.size, 1, none⟩ = some (.int .i64 b) ∧ w2.cell? ⟨W.heap.size, 2, none⟩ = some (.int .i64 t) ∧ w2.cell? ⟨W.heap.size, 3, none⟩ = some (.string s) ∧ w2.cell? ⟨W.heap.size, 4, none⟩ = some (.int .i64 n)) ∧ ResO w2 R ∧ Below W.heap.size W w2 := by
  have hs : R < W.heap.size := (Array.getElem?_eq_some_iff.1 hR).1
  have e := heap_alloc_new W (.cells #[.int .i64 a, .int .i64 b, .int .i64 t, .string s, .int .i64 n] 132)
  have e2 := (b2.block W.heap.size (by simp)).trans e
  have B := lxbelow_new b2
  refine ⟨⟨?_, ?_, ?_, ?_, ?_⟩, hR.below B hs, B⟩ <;> (rw [Lib.cell_of_heap e2]; rfl)
theorem undrew {a w : World} (h : Below a.drew.heap.size a.drew w) : Below a.heap.size a w := ⟨h.os, h.tape, h.output, h.size, h.block⟩
theorem below_put5 {w w2 : World} {a b c d e : Value} (h : Below w.heap.size w w2) : Below w.heap.size w (((((w2.setCell ⟨w.heap.size, 0, none⟩ a).setCell ⟨w.heap.size, 1, none⟩ b).setCell ⟨w.heap.size, 2, none⟩ c).setCell ⟨w.heap.size, 3, none⟩ d).setCell ⟨w.heap.size, 4, none⟩ e) :=
  ((((h.setCell (p := ⟨w.heap.size, 0, none⟩) (Nat.le_refl _) _).setCell (p := ⟨w.heap.size, 1, none⟩) (Nat.le_refl _) _).setCell (p := ⟨w.heap.size, 2, none⟩) (Nat.le_refl _) _).setCell (p := ⟨w.heap.size, 3, none⟩) (Nat.le_refl _) _).setCell (p := ⟨w.heap.size, 4, none⟩) (Nat.le_refl _) _
theorem find_take {p : Opr → Bool} : ∀ (l : List Opr) (k : Nat) (h : k < l.length), (∀ j (hj : j < l.length), j < k → p l[j] = false) → p l[k] = true → l.find? p = some l[k]
  | a :: l, 0, h, _, hp => by simp at hp; simp [hp]
  | a :: l, k + 1, h, hn, hp => by
    have h0 : p a = false := hn 0 (by simp) (by omega)
    rw [List.find?_cons_of_neg (by simp [h0])]
    exact find_take l k (by simpa using h) (fun j hj hjk => hn (j + 1) (by simpa using hj) (by omega)) (by simpa using hp)
theorem find_none {p : Opr → Bool} (l : List Opr) (h : ∀ j (hj : j < l.length), p l[j] = false) : l.find? p = none := by
  rw [List.find?_eq_none]
  intro x hx
  obtain ⟨j, hj, rfl⟩ := List.getElem_of_mem hx
  simp [h j hj]
set_option maxHeartbeats 8000000 in
theorem operator_any {w : World} {rb : Nat} {p : Option Addr} {c : Nat} {xs l : Ts} {d : Nat} (n : Int) (h : RS w rb p c xs l d) :
    Calls Tryz.prog 132 #[.pointer (some ⟨rb, 0, none⟩), .int .i64 n] w fun e w' => e = .returned (.tuple #[oprO (opAt n l), .bool (opAt n l).isSome]) ∧ Below w.heap.size w w' := by
  have hg : w.heap[0]? = some (.cells oprT 172 (0, 0)) := h.gl.1
  have H := hid h
  have hb := h.lt
  have hgb := h.gb.1
  have B0 : Below w.heap.size w (w.alloc (.cells #[.int .i64 0, .int .i64 0, .int .i64 0, .string ⟨#[]⟩, .int .i64 0] 132)) := (Below.refl _ _).alloc (Nat.le_refl _) _
  have hR := hid (show ResO (w.alloc (.cells #[.int .i64 0, .int .i64 0, .int .i64 0, .string ⟨#[]⟩, .int .i64 0] 132)) w.heap.size from heap_alloc_new w _)
  have hg1 := hid ((B0.block 0 (by omega)).trans hg)
  have HB0 := hid B0
  have hs0 : (w.alloc (.cells #[.int .i64 0, .int .i64 0, .int .i64 0, .string ⟨#[]⟩, .int .i64 0] 132)).heap.size = w.heap.size + 1 := by simp
  have hT := hid oprT_at
  clear h B0 hg
  go_enter Tryz.func132, Tryz.ntmps132
  go_wp2_with fail
  refine wp_load_row 172 (.global 0) rfl 0 rfl 172 oprT (0, 0) _ hg1.out Tryz.underlying172 rfl oprT_size ?_
  generalize oprT = V at *
  generalize hW : w.alloc _ = W at *
  clear hW
  go_wp2_with fail
  go_loopw [9] (fun i wr => ∃ k : Nat, k ≤ 16 ∧ i = .int .i64 (k : Int) ∧ Below (w.heap.size + 1) W wr ∧ ∀ j (hj : j < oprs.length), j < k → (oprs[j].line == n && stn oprs[j].tok oprs[j].txt l) = false) (fun i _ => 16 - (RowKit.intOf i).toNat)
  case atStart => exact ⟨0, by omega, rfl, Below.refl _ _, fun j hj h => absurd h (Nat.not_lt_zero _)⟩
  case round =>
    obtain ⟨k, hk, rfl, hbw, hno⟩ := hrel
    have HB := hid hbw
    have HN := hid hno
    have hsz := hbw.size
    clear hbw hno
    by_cases hk16 : k < 16
    · have hi := fun w => hT.out w k hk16
      have hlt : (k : Int) < 16 := by omega
      have e0 : oprs[k]? = some oprs[k] := List.getElem?_eq_getElem (by exact hk16)
      rw [e0] at hi
      have HO := hid (oprs_tok oprs[k] (List.getElem_mem _))
      have HF := hid (fun hp => find_take (p := fun o => o.line == n && stn o.tok o.txt l) oprs k (by exact hk16) HN.out hp)
      have HN2 := hid (fun (hp : (oprs[k].line == n && stn oprs[k].tok oprs[k].txt l) = false) => (show ∀ j (hj : j < oprs.length), j < k + 1 → (oprs[j].line == n && stn oprs[j].tok oprs[j].txt l) = false from fun j hj h => by
        by_cases e : j = k
        · subst e; exact hp
        · exact HN.out j hj (by omega)))
      clear e0 HN
      have eop : opAt n l = oprs.find? (fun o => o.line == n && stn o.tok o.txt l) := rfl
      rw [← eop] at HF
      generalize oprs[k] = o at *
      have HST := hid (fun w' (hB : Below w.heap.size w w') => stands_any (s := o.txt) o.tok (H.out.below hB) HO.out)
      have HBw := hid (HB0.out.trans (HB.out.mono (Nat.le_succ _)))
      have HRw := hid (hR.out.below HB.out (Nat.lt_succ_self _))
      unfold oprO at hi
      simp only [] at hi
      by_cases hln : o.line = n
      · have HE : Hid ((o.line == n && stn o.tok o.txt l) = stn o.tok o.txt l) := by show _ = _; simp [hln]
        cases hst : stn o.tok o.txt l with
        | true =>
          have HF2 := hid (HF.out (by rw [HE.out, hst]))
          rw [hst] at HST
          go_upto_region 4 with fail
          go_region_held_law (fun w' => w'.cell? ⟨wr.heap.size, 2, none⟩ = some (.int .i64 o.tok) ∧ w'.cell? ⟨wr.heap.size, 3, none⟩ = some (.string ⟨o.txt.toArray⟩) ∧ w'.cell? ⟨wr.heap.size, 4, none⟩ = some (.int .i64 o.line)) (first | exact K2.out | go_simp | go_keep) (first | (go_at_call 134; with_reducible refine (HST.out _ (HBw.out.alloc HBw.out.size _).drew).mono ?_; rintro e w2 ⟨rfl, b2⟩; obtain ⟨⟨y0, y1, y2, y3, y4⟩, r2, bb⟩ := op_after HRw.out (undrew b2); obtain ⟨z0, z1, z2, z3, z4⟩ := r2.cells; have zf := r2.frozen; have BB := hid bb; have K2 := hid (And.intro y2 (And.intro y3 y4)); clear b2 r2 bb))
          go_wp2_with fail
          rw [HF2.out]
          refine bodyPost_ret (by simp [results, Tryz.results132, go_sem, z0, z1, z2, z3, z4]; try rfl) rfl ?_
          refine ⟨?_, below_put5 (HBw.out.trans (BB.out.mono (by omega)))⟩
          subst hln
          rfl
        | false =>
          have HN3 := hid (HN2.out (by rw [HE.out, hst]))
          rw [hst] at HST
          go_upto_region 4 with fail
          go_region_held_law (fun w' => w'.cell? ⟨wr.heap.size, 2, none⟩ = some (.int .i64 o.tok) ∧ w'.cell? ⟨wr.heap.size, 3, none⟩ = some (.string ⟨o.txt.toArray⟩) ∧ w'.cell? ⟨wr.heap.size, 4, none⟩ = some (.int .i64 o.line)) (first | exact K2.out | go_simp | go_keep) (first | (go_at_call 134; with_reducible refine (HST.out _ (HBw.out.alloc HBw.out.size _).drew).mono ?_; rintro e w2 ⟨rfl, b2⟩; obtain ⟨⟨y0, y1, y2, y3, y4⟩, r2, bb⟩ := op_after HRw.out (undrew b2); obtain ⟨z0, z1, z2, z3, z4⟩ := r2.cells; have zf := r2.frozen; have BB := hid bb; have K2 := hid (And.intro y2 (And.intro y3 y4)); clear b2 r2 bb))
          go_wp2_with fail
          go_roundw
          case rel => exact ⟨k + 1, by omega, by go_num, HB.out.trans (BB.out.mono (by omega)), HN3.out⟩
          case measure => simp [RowKit.intOf]; omega
      · have HN3 := hid (HN2.out (by simp [hln]))
        have hlb : (o.line == n) = false := beq_eq_false_iff_ne.2 hln
        go_upto_region 4 with fail
        go_big_quiet (fail)
        go_wp2_with fail
        go_roundw
        case rel => exact ⟨k + 1, by omega, by go_num, below_drewN (HB.out.alloc (by omega) _) _, HN3.out⟩
        case measure => simp [RowKit.intOf]; omega
    · have hlt : ¬ (k : Int) < 16 := by omega
      have HF := hid (show opAt n l = none from find_none _ (fun j hj => HN.out j hj (by have : oprs.length = 16 := rfl; omega)))
      obtain ⟨z0, z1, z2, z3, z4⟩ := (hR.out.below HB.out (Nat.lt_succ_self _)).cells
      have zf := (hR.out.below HB.out (Nat.lt_succ_self _)).frozen
      go_wp2_with fail
      rw [HF.out]
      refine bodyPost_ret (by simp [results, Tryz.results132, go_sem, z0, z1, z2, z3, z4]; try rfl) rfl ?_
      exact ⟨rfl, below_put5 (HB0.out.trans (HB.out.mono (Nat.le_succ _)))⟩
end Go.Proofs.YtblkhlhhlalbkaaGreatDoor
