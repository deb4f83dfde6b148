/- What all lines' functions of the reader of package expr do, at every nesting. Conditions: none. What newReader of package expr makes. Conditions: none. -/
import Derived.Test.YtfhhigablibeoaaGreatDoorExItemL
import Derived.Test.YtfhhigablibeoaaGreatDoorExAhead
import Derived.Test.YtfhhigablibeoaaGreatDoorExTest
namespace Go.Proofs.YtfhhigablibeoaaGreatDoor
open Go.RowKit Go.Lib Go.Sort
set_option linter.unusedVariables false
set_option maxRecDepth 20000

abbrev envA (rb k : Nat) : Array Value := #[.pointer (some ⟨rb + k, 0, none⟩), .pointer (some ⟨rb + (k + 1), 0, none⟩), .pointer (some ⟨rb + (k + 2), 0, none⟩), .pointer (some ⟨rb + (k + 3), 0, none⟩)]
abbrev envR (rb k : Nat) : Array Value := #[rP rb (k + 2), rP rb k, rP rb (k + 1)]
abbrev envT (rb k : Nat) : Array Value := #[rP rb (k + 1), rP rb k]
theorem st_at {w : World} {rb : Nat} {p : Option Addr} {c : Nat} {xs l : Ts} {d : Nat} (h : RS w rb p c xs l d) (i : Nat) (v : Value) (hi : (statV rb)[i]? = some v) : w.cell? ⟨rb + (i + 1), 0, none⟩ = some v := by
  obtain ⟨h1, h2⟩ := List.getElem?_eq_some_iff.1 hi
  rw [← h2]
  exact h.st i h1
theorem app_nil (cs : Array Value) : (#[] : Array Value) ++ cs = cs := by simp
theorem line_env {rb : Nat} {p : Option Addr} {c : Nat} {xs : Ts} {d G : Nat} {e e' : Array Value} {P : Ts → Rd Ex} (h : LineOk rb p c xs d G e P) (he : e' = e) : LineOk rb p c xs d G e' P := by rw [he]; exact h
/-- All lines at a nesting, out of those one deeper. -/
theorem lines_step {rb : Nat} {p : Option Addr} {c : Nat} {xs : Ts} (d : Nat)
    (ih : ∀ d', d = d' + 1 → LineOk rb p c xs d' 59 (envA rb 1) (lns d').sg ∧ LineOk rb p c xs d' 59 (envA rb 16) (lns d').nt ∧ LineOk rb p c xs d' 70 (envR rb 23) (lns d').orr) :
    LineOk rb p c xs d 59 (envA rb 1) (lns d).sg ∧ LineOk rb p c xs d 59 (envA rb 16) (lns d).nt ∧ LineOk rb p c xs d 70 (envR rb 23) (lns d).orr := by
  have hpr : ∀ (f : Lns → Ts → Rd Ex) (g : Ts → Rd Ex), (prv d).map f = some g → ∃ d', d = d' + 1 ∧ g = f (lns d') := by
    intro f g hg
    cases d with
    | zero => cases hg
    | succ d' => cases hg; exact ⟨d', rfl, rfl⟩
  have hno : ∀ f : Lns → Ts → Rd Ex, (prv d).map f = none → d = 0 := by
    intro f hg
    cases d with
    | zero => rfl
    | succ d' => cases hg
  have hsf := sf_lns d
  rw [lns_eq] at hsf ⊢
  have hItem : LineOk rb p c xs d 35 (#[.pointer (some ⟨rb, 0, none⟩)] ++ #[]) (itemP ((prv d).map (·.orr))) := by
    refine line_env (item_any (fun g hg => ?_) (hno _)) (by simp)
    obtain ⟨d', e, rfl⟩ := hpr _ g hg
    exact ⟨d', e, (ih d' e).2.2⟩
  have hSign : LineOk rb p c xs d 59 (envA rb 1) (signP (prv d)) := by
    refine ahead_any 1 8 (fun w l d' h => ⟨st_at h 0 _ rfl, st_at h 1 _ rfl, st_at h 2 _ rfl, st_at h 3 _ rfl⟩) Tryz.call35 hItem (fun g hg => ?_) (hno _)
    obtain ⟨d', e, rfl⟩ := hpr _ g hg
    exact ⟨d', e, (ih d' e).1⟩
  have hSs : Sf (signP (prv d)) := hsf.1
  have hProd : LineOk rb p c xs d 70 (envR rb 5) (rowP 7 (signP (prv d))) :=
    row_any 5 7 (fun w l h => ⟨st_at h 4 _ rfl, st_at h 5 _ rfl, st_at h 6 _ rfl⟩) Tryz.call59 (line_env hSign (app_nil _)) hSs
  have hSum : LineOk rb p c xs d 70 (envR rb 8) (rowP 6 (rowP 7 (signP (prv d)))) :=
    row_any 8 6 (fun w l h => ⟨st_at h 7 _ rfl, st_at h 8 _ rfl, st_at h 9 _ rfl⟩) Tryz.call70 (line_env hProd (app_nil _)) (sf_row hSs)
  have hCat : LineOk rb p c xs d 70 (envR rb 11) (catP (prv d)) :=
    row_any 11 5 (fun w l h => ⟨st_at h 10 _ rfl, st_at h 11 _ rfl, st_at h 12 _ rfl⟩) Tryz.call70 (line_env hSum (app_nil _)) (sf_row (sf_row hSs))
  have hTest : LineOk rb p c xs d 72 (envT rb 14) (testP (catP (prv d))) :=
    test_any 14 (fun w l h => ⟨st_at h 13 _ rfl, st_at h 14 _ rfl⟩) Tryz.call70 (line_env hCat (app_nil _))
  have hNot : LineOk rb p c xs d 59 (envA rb 16) (notP (prv d)) := by
    refine ahead_any 16 3 (fun w l d' h => ⟨st_at h 15 _ rfl, st_at h 16 _ rfl, st_at h 17 _ rfl, st_at h 18 _ rfl⟩) Tryz.call72 (line_env hTest (app_nil _)) (fun g hg => ?_) (hno _)
    obtain ⟨d', e, rfl⟩ := hpr _ g hg
    exact ⟨d', e, (ih d' e).2.1⟩
  have hSn : Sf (notP (prv d)) := hsf.2.1
  have hAnd : LineOk rb p c xs d 70 (envR rb 20) (rowP 2 (notP (prv d))) :=
    row_any 20 2 (fun w l h => ⟨st_at h 19 _ rfl, st_at h 20 _ rfl, st_at h 21 _ rfl⟩) Tryz.call59 (line_env hNot (app_nil _)) hSn
  have hOr : LineOk rb p c xs d 70 (envR rb 23) (orP (prv d)) :=
    row_any 23 1 (fun w l h => ⟨st_at h 22 _ rfl, st_at h 23 _ rfl, st_at h 24 _ rfl⟩) Tryz.call70 (line_env hAnd (app_nil _)) (sf_row hSn)
  exact ⟨hSign, hNot, hOr⟩
theorem lines_ok {rb : Nat} {p : Option Addr} {c : Nat} {xs : Ts} : ∀ d, LineOk rb p c xs d 59 (envA rb 1) (lns d).sg ∧ LineOk rb p c xs d 59 (envA rb 16) (lns d).nt ∧ LineOk rb p c xs d 70 (envR rb 23) (lns d).orr
  | 0 => lines_step 0 (fun d' h => by cases h)
  | d + 1 => lines_step (d + 1) (fun d' h => by cases h; exact lines_ok d)
end Go.Proofs.YtfhhigablibeoaaGreatDoor
namespace Go.Proofs.YtfhhigablibeoaaGreatDoor
open Go.RowKit Go.Lib Go.Sort
set_option linter.unusedVariables false
set_option maxRecDepth 20000

theorem hmf : ∀ (fn : Fn) (first cap : Array Value) (w : World), (Instr.makeFunc fn first cap).run Tryz.prog w = .ok (.func fn first cap) w := fun _ _ _ _ => rfl
set_option maxHeartbeats 2000000 in
theorem row_mk (rb B : Nat) (n : Int) (fv : Value) (w : World) (hB : w.heap.size = B) (hf : ∃ g fs cs, fv = .func g fs cs) :
    Calls Tryz.prog 36 #[.pointer (some ⟨rb, 0, none⟩), .int .i64 n, fv] w fun e w' => e = .returned (.func (.func 70) #[] #[.pointer (some ⟨B + 2, 0, none⟩), .pointer (some ⟨B, 0, none⟩), .pointer (some ⟨B + 1, 0, none⟩)]) ∧ Below B w w' ∧ w'.heap.size = B + 3 ∧ w'.cell? ⟨B, 0, none⟩ = some (.pointer (some ⟨rb, 0, none⟩)) ∧ w'.cell? ⟨B + 1, 0, none⟩ = some (.int .i64 n) ∧ w'.cell? ⟨B + 2, 0, none⟩ = some fv := by
  have h := hmf
  obtain ⟨g, fs, cs, rfl⟩ := hf
  subst hB
  obtain ⟨s, e1, e2, e3⟩ := alc3 w (.cells #[.pointer (some ⟨rb, 0, none⟩)] 59) (.cells #[.int .i64 n] 3) (.cells #[.func g fs cs] 64)
  have B3 := hid ((((Below.refl w.heap.size w).alloc (Nat.le_refl _) (.cells #[.pointer (some ⟨rb, 0, none⟩)] 59)).alloc (by simp) (.cells #[.int .i64 n] 3)).alloc (by simp; omega) (.cells #[.func g fs cs] 64))
  have HE := hid (And.intro s (And.intro e1 (And.intro e2 e3)))
  clear s e1 e2 e3
  go_enter Tryz.func36, Tryz.ntmps36
  go_wp2
  go_ret
  obtain ⟨s, e1, e2, e3⟩ := HE.out
  exact ⟨rfl, B3.out, s, by rw [Lib.cell_of_heap e1]; rfl, by rw [Lib.cell_of_heap e2]; rfl, by rw [Lib.cell_of_heap e3]; rfl⟩
set_option maxHeartbeats 2000000 in
theorem test_mk (rb B : Nat) (fv : Value) (w : World) (hB : w.heap.size = B) (hf : ∃ g fs cs, fv = .func g fs cs) :
    Calls Tryz.prog 37 #[.pointer (some ⟨rb, 0, none⟩), fv] w fun e w' => e = .returned (.func (.func 72) #[] #[.pointer (some ⟨B + 1, 0, none⟩), .pointer (some ⟨B, 0, none⟩)]) ∧ Below B w w' ∧ w'.heap.size = B + 2 ∧ w'.cell? ⟨B, 0, none⟩ = some (.pointer (some ⟨rb, 0, none⟩)) ∧ w'.cell? ⟨B + 1, 0, none⟩ = some fv := by
  have h := hmf
  obtain ⟨g, fs, cs, rfl⟩ := hf
  subst hB
  obtain ⟨s, e1, e2⟩ := alc2 w (.cells #[.pointer (some ⟨rb, 0, none⟩)] 59) (.cells #[.func g fs cs] 64)
  have B3 := hid (((Below.refl w.heap.size w).alloc (Nat.le_refl _) (.cells #[.pointer (some ⟨rb, 0, none⟩)] 59)).alloc (by simp) (.cells #[.func g fs cs] 64))
  have HE := hid (And.intro s (And.intro e1 e2))
  clear s e1 e2
  go_enter Tryz.func37, Tryz.ntmps37
  go_wp2
  go_ret
  obtain ⟨s, e1, e2⟩ := HE.out
  exact ⟨rfl, B3.out, s, by rw [Lib.cell_of_heap e1]; rfl, by rw [Lib.cell_of_heap e2]; rfl⟩
set_option maxHeartbeats 2000000 in
theorem ahead_mk (rb B : Nat) (n : Int) (fv : Value) (w : World) (hB : w.heap.size = B) (hf : ∃ g fs cs, fv = .func g fs cs) :
    Calls Tryz.prog 34 #[.pointer (some ⟨rb, 0, none⟩), .int .i64 n, fv] w fun e w' => e = .returned (.func (.func 59) #[] #[.pointer (some ⟨B, 0, none⟩), .pointer (some ⟨B + 1, 0, none⟩), .pointer (some ⟨B + 2, 0, none⟩), .pointer (some ⟨B + 3, 0, none⟩)]) ∧ Below B w w' ∧ w'.heap.size = B + 4 ∧ w'.cell? ⟨B, 0, none⟩ = some (.pointer (some ⟨rb, 0, none⟩)) ∧ w'.cell? ⟨B + 1, 0, none⟩ = some (.int .i64 n) ∧ w'.cell? ⟨B + 2, 0, none⟩ = some fv ∧ w'.cell? ⟨B + 3, 0, none⟩ = some (.func (.func 59) #[] #[.pointer (some ⟨B, 0, none⟩), .pointer (some ⟨B + 1, 0, none⟩), .pointer (some ⟨B + 2, 0, none⟩), .pointer (some ⟨B + 3, 0, none⟩)]) := by
  have h := hmf
  obtain ⟨g, fs, cs, rfl⟩ := hf
  subst hB
  obtain ⟨s, e1, e2, e3⟩ := alc3 w (.cells #[.pointer (some ⟨rb, 0, none⟩)] 59) (.cells #[.int .i64 n] 3) (.cells #[.func g fs cs] 64)
  have B3 := ((((Below.refl w.heap.size w).alloc (Nat.le_refl _) (.cells #[.pointer (some ⟨rb, 0, none⟩)] 59)).alloc (by simp) (.cells #[.int .i64 n] 3)).alloc (by simp; omega) (.cells #[.func g fs cs] 64))
  generalize hX : (((w.alloc (.cells #[.pointer (some ⟨rb, 0, none⟩)] 59)).alloc (.cells #[.int .i64 n] 3)).alloc (.cells #[.func g fs cs] 64)) = X at s e1 e2 e3 B3
  have e4 := heap_alloc_new X (.cells #[.nilFunc] 64)
  have A4 := albl X (.cells #[.nilFunc] 64)
  rw [s] at e4 A4
  have s4 : (X.alloc (.cells #[.nilFunc] 64)).heap.size = w.heap.size + 4 := by rw [show w.heap.size + 4 = w.heap.size + 3 + 1 from rfl, ← s]; simp
  have c4 : (X.alloc (.cells #[.nilFunc] 64)).cell? ⟨w.heap.size + 3, 0, none⟩ = some .nilFunc := by rw [Lib.cell_of_heap e4]; rfl
  have f4 : (X.alloc (.cells #[.nilFunc] 64)).frozen? ⟨w.heap.size + 3, 0, none⟩ = false := Lib.frozen_of_heap e4 0
  have B4 := hid (B3.trans (A4.mono (by omega)))
  have g1 := hid ((A4.block _ (by omega)).trans e1)
  have g2 := hid ((A4.block _ (by omega)).trans e2)
  have g3 := hid ((A4.block _ (by omega)).trans e3)
  have g4 := hid e4
  have hst : (store ⟨w.heap.size + 3, 0, none⟩ (.func (.func 59) #[] #[.pointer (some ⟨w.heap.size, 0, none⟩), .pointer (some ⟨w.heap.size + 1, 0, none⟩), .pointer (some ⟨w.heap.size + 1 + 1, 0, none⟩), .pointer (some ⟨w.heap.size + 3, 0, none⟩)])).run Tryz.prog (X.alloc (.cells #[.nilFunc] 64)) = .ok () ((X.alloc (.cells #[.nilFunc] 64)).setCell ⟨w.heap.size + 3, 0, none⟩ (.func (.func 59) #[] #[.pointer (some ⟨w.heap.size, 0, none⟩), .pointer (some ⟨w.heap.size + 1, 0, none⟩), .pointer (some ⟨w.heap.size + 1 + 1, 0, none⟩), .pointer (some ⟨w.heap.size + 3, 0, none⟩)])) := by
    rw [run_store Tryz.prog _ _ _ _ (by rfl), c4]
    simp [f4]
  go_enter Tryz.func34, Tryz.ntmps34
  go_upto_region 2 with fail
  clear hX e1 e2 e3 e4 A4 B3
  generalize hY : X.alloc _ = Y at *
  clear hY
  go_wp2
  go_ret
  have hne : ∀ k, k < w.heap.size + 3 → (Y.setCell ⟨w.heap.size + 3, 0, none⟩ (.func (.func 59) #[] #[.pointer (some ⟨w.heap.size, 0, none⟩), .pointer (some ⟨w.heap.size + 1, 0, none⟩), .pointer (some ⟨w.heap.size + 1 + 1, 0, none⟩), .pointer (some ⟨w.heap.size + 3, 0, none⟩)])).heap[k]? = Y.heap[k]? := fun k hk => Below.heap_setCell _ _ _ _ (by show k ≠ w.heap.size + 3; omega)
  refine ⟨rfl, B4.out.setCell (p := ⟨w.heap.size + 3, 0, none⟩) (by show w.heap.size ≤ w.heap.size + 3; omega) _, by simpa [World.setCell] using s4, ?_, ?_, ?_, ?_⟩
  · rw [Lib.cell_of_heap ((hne _ (by omega)).trans g1.out)]; rfl
  · rw [Lib.cell_of_heap ((hne _ (by omega)).trans g2.out)]; rfl
  · rw [Lib.cell_of_heap ((hne _ (by omega)).trans g3.out)]; rfl
  · simp [go_sem, c4]
end Go.Proofs.YtfhhigablibeoaaGreatDoor
