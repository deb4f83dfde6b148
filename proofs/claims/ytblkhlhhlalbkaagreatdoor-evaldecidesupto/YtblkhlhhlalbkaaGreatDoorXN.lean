/- What all lines' functions of the reader of package expr do, at every nesting. Conditions: none. What newReader of package expr makes. Conditions: none. What newReader of package expr makes, whole. Conditions: none. What Read of package expr catches. Conditions: none. What Read of package expr answers. Conditions: the words lie within the reach. What Read of package expr answers at a place that is none of the list. Conditions: none. -/
import Derived.Test.YtblkhlhhlalbkaaGreatDoorXL
import Derived.Test.YtblkhlhhlalbkaaGreatDoorXM
import Derived.WalkSmall
namespace Go.Proofs.YtblkhlhhlalbkaaGreatDoor
open Go.RowKit Go.Lib Go.Sort
set_option linter.unusedVariables false
set_option maxRecDepth 20000

abbrev envA (rb k : Nat) : Array Value := #[.pointer (some ⟨rb + k, 0, none⟩), .pointer (some ⟨rb + (k + 1), 0, none⟩), .pointer (some ⟨rb + (k + 2), 0, none⟩), .pointer (some ⟨rb + (k + 3), 0, none⟩)]
abbrev envR (rb k : Nat) : Array Value := #[rP rb (k + 2), rP rb k, rP rb (k + 1)]
abbrev envT (rb k : Nat) : Array Value := #[rP rb (k + 1), rP rb k]
theorem st_at {w : World} {rb : Nat} {p : Option Addr} {c : Nat} {xs l : Ts} {d : Nat} (h : RS w rb p c xs l d) (i : Nat) (v : Value) (hi : (statV rb)[i]? = some v) : w.cell? ⟨rb + (i + 1), 0, none⟩ = some v := by
  obtain ⟨h1, h2⟩ := List.getElem?_eq_some_iff.1 hi
  rw [← h2]
  exact h.st i h1
theorem app_nil (cs : Array Value) : (#[] : Array Value) ++ cs = cs := by simp
theorem line_env {rb : Nat} {p : Option Addr} {c : Nat} {xs : Ts} {d G : Nat} {e e' : Array Value} {P : Ts → Rd Ex} (h : LineOk rb p c xs d G e P) (he : e' = e) : LineOk rb p c xs d G e' P := by rw [he]; exact h
/-- All lines at a nesting, out of those one deeper. -/
theorem lines_step {rb : Nat} {p : Option Addr} {c : Nat} {xs : Ts} (d : Nat)
    (ih : ∀ d', d = d' + 1 → LineOk rb p c xs d' 131 (envA rb 1) (lns d').sg ∧ LineOk rb p c xs d' 131 (envA rb 16) (lns d').nt ∧ LineOk rb p c xs d' 142 (envR rb 23) (lns d').orr) :
    LineOk rb p c xs d 131 (envA rb 1) (lns d).sg ∧ LineOk rb p c xs d 131 (envA rb 16) (lns d).nt ∧ LineOk rb p c xs d 142 (envR rb 23) (lns d).orr := by
  have hpr : ∀ (f : Lns → Ts → Rd Ex) (g : Ts → Rd Ex), (prv d).map f = some g → ∃ d', d = d' + 1 ∧ g = f (lns d') := by
    intro f g hg
    cases d with
    | zero => cases hg
    | succ d' => cases hg; exact ⟨d', rfl, rfl⟩
  have hno : ∀ f : Lns → Ts → Rd Ex, (prv d).map f = none → d = 0 := by
    intro f hg
    cases d with
    | zero => rfl
    | succ d' => cases hg
  have hsf := sf_lns d
  rw [lns_eq] at hsf ⊢
  have hItem : LineOk rb p c xs d 92 (#[.pointer (some ⟨rb, 0, none⟩)] ++ #[]) (itemP ((prv d).map (·.orr))) := by
    refine line_env (item_any (fun g hg => ?_) (hno _)) (by simp)
    obtain ⟨d', e, rfl⟩ := hpr _ g hg
    exact ⟨d', e, (ih d' e).2.2⟩
  have hSign : LineOk rb p c xs d 131 (envA rb 1) (signP (prv d)) := by
    refine ahead_any 1 8 (fun w l d' h => ⟨st_at h 0 _ rfl, st_at h 1 _ rfl, st_at h 2 _ rfl, st_at h 3 _ rfl⟩) Tryz.call92 hItem (fun g hg => ?_) (hno _)
    obtain ⟨d', e, rfl⟩ := hpr _ g hg
    exact ⟨d', e, (ih d' e).1⟩
  have hSs : Sf (signP (prv d)) := hsf.1
  have hProd : LineOk rb p c xs d 142 (envR rb 5) (rowP 7 (signP (prv d))) :=
    row_any 5 7 (fun w l h => ⟨st_at h 4 _ rfl, st_at h 5 _ rfl, st_at h 6 _ rfl⟩) Tryz.call131 (line_env hSign (app_nil _)) hSs
  have hSum : LineOk rb p c xs d 142 (envR rb 8) (rowP 6 (rowP 7 (signP (prv d)))) :=
    row_any 8 6 (fun w l h => ⟨st_at h 7 _ rfl, st_at h 8 _ rfl, st_at h 9 _ rfl⟩) Tryz.call142 (line_env hProd (app_nil _)) (sf_row hSs)
  have hCat : LineOk rb p c xs d 142 (envR rb 11) (catP (prv d)) :=
    row_any 11 5 (fun w l h => ⟨st_at h 10 _ rfl, st_at h 11 _ rfl, st_at h 12 _ rfl⟩) Tryz.call142 (line_env hSum (app_nil _)) (sf_row (sf_row hSs))
  have hTest : LineOk rb p c xs d 144 (envT rb 14) (testP (catP (prv d))) :=
    test_any 14 (fun w l h => ⟨st_at h 13 _ rfl, st_at h 14 _ rfl⟩) Tryz.call142 (line_env hCat (app_nil _))
  have hNot : LineOk rb p c xs d 131 (envA rb 16) (notP (prv d)) := by
    refine ahead_any 16 3 (fun w l d' h => ⟨st_at h 15 _ rfl, st_at h 16 _ rfl, st_at h 17 _ rfl, st_at h 18 _ rfl⟩) Tryz.call144 (line_env hTest (app_nil _)) (fun g hg => ?_) (hno _)
    obtain ⟨d', e, rfl⟩ := hpr _ g hg
    exact ⟨d', e, (ih d' e).2.1⟩
  have hSn : Sf (notP (prv d)) := hsf.2.1
  have hAnd : LineOk rb p c xs d 142 (envR rb 20) (rowP 2 (notP (prv d))) :=
    row_any 20 2 (fun w l h => ⟨st_at h 19 _ rfl, st_at h 20 _ rfl, st_at h 21 _ rfl⟩) Tryz.call131 (line_env hNot (app_nil _)) hSn
  have hOr : LineOk rb p c xs d 142 (envR rb 23) (orP (prv d)) :=
    row_any 23 1 (fun w l h => ⟨st_at h 22 _ rfl, st_at h 23 _ rfl, st_at h 24 _ rfl⟩) Tryz.call142 (line_env hAnd (app_nil _)) (sf_row hSn)
  exact ⟨hSign, hNot, hOr⟩
theorem lines_ok {rb : Nat} {p : Option Addr} {c : Nat} {xs : Ts} : ∀ d, LineOk rb p c xs d 131 (envA rb 1) (lns d).sg ∧ LineOk rb p c xs d 131 (envA rb 16) (lns d).nt ∧ LineOk rb p c xs d 142 (envR rb 23) (lns d).orr
  | 0 => lines_step 0 (fun d' h => by cases h)
  | d + 1 => lines_step (d + 1) (fun d' h => by cases h; exact lines_ok d)
end Go.Proofs.YtblkhlhhlalbkaaGreatDoor
namespace Go.Proofs.YtblkhlhhlalbkaaGreatDoor
open Go.RowKit Go.Lib Go.Sort
set_option linter.unusedVariables false
set_option maxRecDepth 20000

theorem hmf : ∀ (fn : Fn) (first cap : Array Value) (w : World), (Instr.makeFunc fn first cap).run Tryz.prog w = .ok (.func fn first cap) w := fun _ _ _ _ => rfl
set_option maxHeartbeats 2000000 in
theorem row_mk (rb B : Nat) (n : Int) (fv : Value) (w : World) (hB : w.heap.size = B) (hf : ∃ g fs cs, fv = .func g fs cs) :
    Calls Tryz.prog 93 #[.pointer (some ⟨rb, 0, none⟩), .int .i64 n, fv] w fun e w' => e = .returned (.func (.func 142) #[] #[.pointer (some ⟨B + 2, 0, none⟩), .pointer (some ⟨B, 0, none⟩), .pointer (some ⟨B + 1, 0, none⟩)]) ∧ Below B w w' ∧ w'.heap.size = B + 3 ∧ w'.cell? ⟨B, 0, none⟩ = some (.pointer (some ⟨rb, 0, none⟩)) ∧ w'.cell? ⟨B + 1, 0, none⟩ = some (.int .i64 n) ∧ w'.cell? ⟨B + 2, 0, none⟩ = some fv := by
  have h := hmf
  obtain ⟨g, fs, cs, rfl⟩ := hf
  subst hB
  obtain ⟨s, e1, e2, e3⟩ := alc3 w (.cells #[.pointer (some ⟨rb, 0, none⟩)] 109) (.cells #[.int .i64 n] 3) (.cells #[.func g fs cs] 114)
  have B3 := hid ((((Below.refl w.heap.size w).alloc (Nat.le_refl _) (.cells #[.pointer (some ⟨rb, 0, none⟩)] 109)).alloc (by simp) (.cells #[.int .i64 n] 3)).alloc (by simp; omega) (.cells #[.func g fs cs] 114))
  have HE := hid (And.intro s (And.intro e1 (And.intro e2 e3)))
  clear s e1 e2 e3
  go_enter Tryz.func93, Tryz.ntmps93
  go_wp2
  go_ret
  obtain ⟨s, e1, e2, e3⟩ := HE.out
  exact ⟨rfl, B3.out, s, by rw [Lib.cell_of_heap e1]; rfl, by rw [Lib.cell_of_heap e2]; rfl, by rw [Lib.cell_of_heap e3]; rfl⟩
set_option maxHeartbeats 2000000 in
theorem test_mk (rb B : Nat) (fv : Value) (w : World) (hB : w.heap.size = B) (hf : ∃ g fs cs, fv = .func g fs cs) :
    Calls Tryz.prog 94 #[.pointer (some ⟨rb, 0, none⟩), fv] w fun e w' => e = .returned (.func (.func 144) #[] #[.pointer (some ⟨B + 1, 0, none⟩), .pointer (some ⟨B, 0, none⟩)]) ∧ Below B w w' ∧ w'.heap.size = B + 2 ∧ w'.cell? ⟨B, 0, none⟩ = some (.pointer (some ⟨rb, 0, none⟩)) ∧ w'.cell? ⟨B + 1, 0, none⟩ = some fv := by
  have h := hmf
  obtain ⟨g, fs, cs, rfl⟩ := hf
  subst hB
  obtain ⟨s, e1, e2⟩ := alc2 w (.cells #[.pointer (some ⟨rb, 0, none⟩)] 109) (.cells #[.func g fs cs] 114)
  have B3 := hid (((Below.refl w.heap.size w).alloc (Nat.le_refl _) (.cells #[.pointer (some ⟨rb, 0, none⟩)] 109)).alloc (by simp) (.cells #[.func g fs cs] 114))
  have HE := hid (And.intro s (And.intro e1 e2))
  clear s e1 e2
  go_enter Tryz.func94, Tryz.ntmps94
  go_wp2
  go_ret
  obtain ⟨s, e1, e2⟩ := HE.out
  exact ⟨rfl, B3.out, s, by rw [Lib.cell_of_heap e1]; rfl, by rw [Lib.cell_of_heap e2]; rfl⟩
set_option maxHeartbeats 2000000 in
theorem ahead_mk (rb B : Nat) (n : Int) (fv : Value) (w : World) (hB : w.heap.size = B) (hf : ∃ g fs cs, fv = .func g fs cs) :
    Calls Tryz.prog 91 #[.pointer (some ⟨rb, 0, none⟩), .int .i64 n, fv] w fun e w' => e = .returned (.func (.func 131) #[] #[.pointer (some ⟨B, 0, none⟩), .pointer (some ⟨B + 1, 0, none⟩), .pointer (some ⟨B + 2, 0, none⟩), .pointer (some ⟨B + 3, 0, none⟩)]) ∧ Below B w w' ∧ w'.heap.size = B + 4 ∧ w'.cell? ⟨B, 0, none⟩ = some (.pointer (some ⟨rb, 0, none⟩)) ∧ w'.cell? ⟨B + 1, 0, none⟩ = some (.int .i64 n) ∧ w'.cell? ⟨B + 2, 0, none⟩ = some fv ∧ w'.cell? ⟨B + 3, 0, none⟩ = some (.func (.func 131) #[] #[.pointer (some ⟨B, 0, none⟩), .pointer (some ⟨B + 1, 0, none⟩), .pointer (some ⟨B + 2, 0, none⟩), .pointer (some ⟨B + 3, 0, none⟩)]) := by
  have h := hmf
  obtain ⟨g, fs, cs, rfl⟩ := hf
  subst hB
  obtain ⟨s, e1, e2, e3⟩ := alc3 w (.cells #[.pointer (some ⟨rb, 0, none⟩)] 109) (.cells #[.int .i64 n] 3) (.cells #[.func g fs cs] 114)
  have B3 := ((((Below.refl w.heap.size w).alloc (Nat.le_refl _) (.cells #[.pointer (some ⟨rb, 0, none⟩)] 109)).alloc (by simp) (.cells #[.int .i64 n] 3)).alloc (by simp; omega) (.cells #[.func g fs cs] 114))
  generalize hX : (((w.alloc (.cells #[.pointer (some ⟨rb, 0, none⟩)] 109)).alloc (.cells #[.int .i64 n] 3)).alloc (.cells #[.func g fs cs] 114)) = X at s e1 e2 e3 B3
  have e4 := heap_alloc_new X (.cells #[.nilFunc] 114)
  have A4 := albl X (.cells #[.nilFunc] 114)
  rw [s] at e4 A4
  have s4 : (X.alloc (.cells #[.nilFunc] 114)).heap.size = w.heap.size + 4 := by rw [show w.heap.size + 4 = w.heap.size + 3 + 1 from rfl, ← s]; simp
  have c4 : (X.alloc (.cells #[.nilFunc] 114)).cell? ⟨w.heap.size + 3, 0, none⟩ = some .nilFunc := by rw [Lib.cell_of_heap e4]; rfl
  have f4 : (X.alloc (.cells #[.nilFunc] 114)).frozen? ⟨w.heap.size + 3, 0, none⟩ = false := Lib.frozen_of_heap e4 0
  have B4 := hid (B3.trans (A4.mono (by omega)))
  have g1 := hid ((A4.block _ (by omega)).trans e1)
  have g2 := hid ((A4.block _ (by omega)).trans e2)
  have g3 := hid ((A4.block _ (by omega)).trans e3)
  have g4 := hid e4
  have hst : (store ⟨w.heap.size + 3, 0, none⟩ (.func (.func 131) #[] #[.pointer (some ⟨w.heap.size, 0, none⟩), .pointer (some ⟨w.heap.size + 1, 0, none⟩), .pointer (some ⟨w.heap.size + 1 + 1, 0, none⟩), .pointer (some ⟨w.heap.size + 3, 0, none⟩)])).run Tryz.prog (X.alloc (.cells #[.nilFunc] 114)) = .ok () ((X.alloc (.cells #[.nilFunc] 114)).setCell ⟨w.heap.size + 3, 0, none⟩ (.func (.func 131) #[] #[.pointer (some ⟨w.heap.size, 0, none⟩), .pointer (some ⟨w.heap.size + 1, 0, none⟩), .pointer (some ⟨w.heap.size + 1 + 1, 0, none⟩), .pointer (some ⟨w.heap.size + 3, 0, none⟩)])) := by
    rw [run_store Tryz.prog _ _ _ _ (by rfl), c4]
    simp [f4]
  go_enter Tryz.func91, Tryz.ntmps91
  go_upto_region 2 with fail
  clear hX e1 e2 e3 e4 A4 B3
  generalize hY : X.alloc _ = Y at *
  clear hY
  go_wp2
  go_ret
  have hne : ∀ k, k < w.heap.size + 3 → (Y.setCell ⟨w.heap.size + 3, 0, none⟩ (.func (.func 131) #[] #[.pointer (some ⟨w.heap.size, 0, none⟩), .pointer (some ⟨w.heap.size + 1, 0, none⟩), .pointer (some ⟨w.heap.size + 1 + 1, 0, none⟩), .pointer (some ⟨w.heap.size + 3, 0, none⟩)])).heap[k]? = Y.heap[k]? := fun k hk => Below.heap_setCell _ _ _ _ (by show k ≠ w.heap.size + 3; omega)
  refine ⟨rfl, B4.out.setCell (p := ⟨w.heap.size + 3, 0, none⟩) (by show w.heap.size ≤ w.heap.size + 3; omega) _, by simpa [World.setCell] using s4, ?_, ?_, ?_, ?_⟩
  · rw [Lib.cell_of_heap ((hne _ (by omega)).trans g1.out)]; rfl
  · rw [Lib.cell_of_heap ((hne _ (by omega)).trans g2.out)]; rfl
  · rw [Lib.cell_of_heap ((hne _ (by omega)).trans g3.out)]; rfl
  · simp [go_sem, c4]
end Go.Proofs.YtblkhlhhlalbkaaGreatDoor
namespace Go.Proofs.YtblkhlhhlalbkaaGreatDoor
open Go.RowKit Go.Lib Go.Sort
set_option linter.unusedVariables false
set_option maxRecDepth 20000

/-- The first of what lies behind the reader. -/
def StatK (w : World) (rb k : Nat) : Prop := ∀ i (h : i < (statV rb).length), i < k → w.cell? ⟨rb + (i + 1), 0, none⟩ = some (statV rb)[i]
theorem StatK.below {w w' : World} {rb k B : Nat} (h : StatK w rb k) (hB : Below B w w') (hb : rb + (k + 1) ≤ B := by omega) : StatK w' rb k := fun i hi hk => (hB.cell (p := ⟨rb + (i + 1), 0, none⟩) (by show rb + (i + 1) < B; omega)).trans (h i hi hk)
theorem StatK.add {w : World} {rb k : Nat} (h : StatK w rb k) (m : Nat) (hn : ∀ j, j < m → ∀ v, (statV rb)[k + j]? = some v → w.cell? ⟨rb + (k + j + 1), 0, none⟩ = some v) : StatK w rb (k + m) := fun i hi hk => by
  by_cases e : i < k
  · exact h i hi e
  · have := hn (i - k) (by omega) (statV rb)[i] (by rw [show k + (i - k) = i by omega]; exact List.getElem?_eq_getElem hi)
    rw [show k + (i - k) + 1 = i + 1 by omega] at this
    exact this
set_option maxHeartbeats 8000000 in
theorem newReader_any {p : Option Addr} {c : Nat} {xs l : Ts} (J : Int) (w : World) (hJ : J = (xs.length : Int) - (l.length : Int)) (ht : TR w p xs) (hg : Gl w) (hsuf : l <:+ xs) (hlen : xs.length ≤ 140737488351232) (hnn : 0 < xs.length) (hpls : ∀ i (h : i < xs.length), xs[i].2 ≤ 140737488351232) (htxt : ∀ x, x ∈ xs → x.1.s.length ≤ 140737488351232) :
    Calls Tryz.prog 73 #[.slice p xs.length c, .int .i64 J] w fun e w' => e = .returned (.pointer (some ⟨w.heap.size, 0, none⟩)) ∧ Below w.heap.size w w' ∧ RS w' w.heap.size p c xs l 32 := by
  have hm := hmf
  generalize hrb : w.heap.size = rb at *
  have M0 := hid (show ∀ w, w.heap.size = rb + 1 → Calls Tryz.prog 91 #[.pointer (some ⟨rb, 0, none⟩), .int .i64 8, (.func (.func 92) #[.pointer (some ⟨rb, 0, none⟩)] #[])] w (fun e w' => e = .returned (.func (.func 131) #[] #[.pointer (some ⟨rb + 1, 0, none⟩), .pointer (some ⟨rb + 2, 0, none⟩), .pointer (some ⟨rb + 3, 0, none⟩), .pointer (some ⟨rb + 4, 0, none⟩)]) ∧ Below (rb + 1) w w' ∧ w'.heap.size = rb + 5 ∧ w'.cell? ⟨rb + 1, 0, none⟩ = some (.pointer (some ⟨rb, 0, none⟩)) ∧ w'.cell? ⟨rb + 2, 0, none⟩ = some (.int .i64 8) ∧ w'.cell? ⟨rb + 3, 0, none⟩ = some ((.func (.func 92) #[.pointer (some ⟨rb, 0, none⟩)] #[])) ∧ w'.cell? ⟨rb + 4, 0, none⟩ = some ((.func (.func 131) #[] #[.pointer (some ⟨rb + 1, 0, none⟩), .pointer (some ⟨rb + 2, 0, none⟩), .pointer (some ⟨rb + 3, 0, none⟩), .pointer (some ⟨rb + 4, 0, none⟩)]))) from fun w h => ahead_mk rb (rb + 1) 8 (.func (.func 92) #[.pointer (some ⟨rb, 0, none⟩)] #[]) w h ⟨_, _, _, rfl⟩)
  have M1 := hid (show ∀ w, w.heap.size = rb + 5 → Calls Tryz.prog 93 #[.pointer (some ⟨rb, 0, none⟩), .int .i64 7, (.func (.func 131) #[] #[.pointer (some ⟨rb + 1, 0, none⟩), .pointer (some ⟨rb + 2, 0, none⟩), .pointer (some ⟨rb + 3, 0, none⟩), .pointer (some ⟨rb + 4, 0, none⟩)])] w (fun e w' => e = .returned (.func (.func 142) #[] #[.pointer (some ⟨rb + 7, 0, none⟩), .pointer (some ⟨rb + 5, 0, none⟩), .pointer (some ⟨rb + 6, 0, none⟩)]) ∧ Below (rb + 5) w w' ∧ w'.heap.size = rb + 8 ∧ w'.cell? ⟨rb + 5, 0, none⟩ = some (.pointer (some ⟨rb, 0, none⟩)) ∧ w'.cell? ⟨rb + 6, 0, none⟩ = some (.int .i64 7) ∧ w'.cell? ⟨rb + 7, 0, none⟩ = some ((.func (.func 131) #[] #[.pointer (some ⟨rb + 1, 0, none⟩), .pointer (some ⟨rb + 2, 0, none⟩), .pointer (some ⟨rb + 3, 0, none⟩), .pointer (some ⟨rb + 4, 0, none⟩)]))) from fun w h => row_mk rb (rb + 5) 7 (.func (.func 131) #[] #[.pointer (some ⟨rb + 1, 0, none⟩), .pointer (some ⟨rb + 2, 0, none⟩), .pointer (some ⟨rb + 3, 0, none⟩), .pointer (some ⟨rb + 4, 0, none⟩)]) w h ⟨_, _, _, rfl⟩)
  have M2 := hid (show ∀ w, w.heap.size = rb + 8 → Calls Tryz.prog 93 #[.pointer (some ⟨rb, 0, none⟩), .int .i64 6, (.func (.func 142) #[] #[.pointer (some ⟨rb + 7, 0, none⟩), .pointer (some ⟨rb + 5, 0, none⟩), .pointer (some ⟨rb + 6, 0, none⟩)])] w (fun e w' => e = .returned (.func (.func 142) #[] #[.pointer (some ⟨rb + 10, 0, none⟩), .pointer (some ⟨rb + 8, 0, none⟩), .pointer (some ⟨rb + 9, 0, none⟩)]) ∧ Below (rb + 8) w w' ∧ w'.heap.size = rb + 11 ∧ w'.cell? ⟨rb + 8, 0, none⟩ = some (.pointer (some ⟨rb, 0, none⟩)) ∧ w'.cell? ⟨rb + 9, 0, none⟩ = some (.int .i64 6) ∧ w'.cell? ⟨rb + 10, 0, none⟩ = some ((.func (.func 142) #[] #[.pointer (some ⟨rb + 7, 0, none⟩), .pointer (some ⟨rb + 5, 0, none⟩), .pointer (some ⟨rb + 6, 0, none⟩)]))) from fun w h => row_mk rb (rb + 8) 6 (.func (.func 142) #[] #[.pointer (some ⟨rb + 7, 0, none⟩), .pointer (some ⟨rb + 5, 0, none⟩), .pointer (some ⟨rb + 6, 0, none⟩)]) w h ⟨_, _, _, rfl⟩)
  have M3 := hid (show ∀ w, w.heap.size = rb + 11 → Calls Tryz.prog 93 #[.pointer (some ⟨rb, 0, none⟩), .int .i64 5, (.func (.func 142) #[] #[.pointer (some ⟨rb + 10, 0, none⟩), .pointer (some ⟨rb + 8, 0, none⟩), .pointer (some ⟨rb + 9, 0, none⟩)])] w (fun e w' => e = .returned (.func (.func 142) #[] #[.pointer (some ⟨rb + 13, 0, none⟩), .pointer (some ⟨rb + 11, 0, none⟩), .pointer (some ⟨rb + 12, 0, none⟩)]) ∧ Below (rb + 11) w w' ∧ w'.heap.size = rb + 14 ∧ w'.cell? ⟨rb + 11, 0, none⟩ = some (.pointer (some ⟨rb, 0, none⟩)) ∧ w'.cell? ⟨rb + 12, 0, none⟩ = some (.int .i64 5) ∧ w'.cell? ⟨rb + 13, 0, none⟩ = some ((.func (.func 142) #[] #[.pointer (some ⟨rb + 10, 0, none⟩), .pointer (some ⟨rb + 8, 0, none⟩), .pointer (some ⟨rb + 9, 0, none⟩)]))) from fun w h => row_mk rb (rb + 11) 5 (.func (.func 142) #[] #[.pointer (some ⟨rb + 10, 0, none⟩), .pointer (some ⟨rb + 8, 0, none⟩), .pointer (some ⟨rb + 9, 0, none⟩)]) w h ⟨_, _, _, rfl⟩)
  have M4 := hid (show ∀ w, w.heap.size = rb + 14 → Calls Tryz.prog 94 #[.pointer (some ⟨rb, 0, none⟩), (.func (.func 142) #[] #[.pointer (some ⟨rb + 13, 0, none⟩), .pointer (some ⟨rb + 11, 0, none⟩), .pointer (some ⟨rb + 12, 0, none⟩)])] w (fun e w' => e = .returned (.func (.func 144) #[] #[.pointer (some ⟨rb + 15, 0, none⟩), .pointer (some ⟨rb + 14, 0, none⟩)]) ∧ Below (rb + 14) w w' ∧ w'.heap.size = rb + 16 ∧ w'.cell? ⟨rb + 14, 0, none⟩ = some (.pointer (some ⟨rb, 0, none⟩)) ∧ w'.cell? ⟨rb + 15, 0, none⟩ = some ((.func (.func 142) #[] #[.pointer (some ⟨rb + 13, 0, none⟩), .pointer (some ⟨rb + 11, 0, none⟩), .pointer (some ⟨rb + 12, 0, none⟩)]))) from fun w h => test_mk rb (rb + 14) (.func (.func 142) #[] #[.pointer (some ⟨rb + 13, 0, none⟩), .pointer (some ⟨rb + 11, 0, none⟩), .pointer (some ⟨rb + 12, 0, none⟩)]) w h ⟨_, _, _, rfl⟩)
  have M5 := hid (show ∀ w, w.heap.size = rb + 16 → Calls Tryz.prog 91 #[.pointer (some ⟨rb, 0, none⟩), .int .i64 3, (.func (.func 144) #[] #[.pointer (some ⟨rb + 15, 0, none⟩), .pointer (some ⟨rb + 14, 0, none⟩)])] w (fun e w' => e = .returned (.func (.func 131) #[] #[.pointer (some ⟨rb + 16, 0, none⟩), .pointer (some ⟨rb + 17, 0, none⟩), .pointer (some ⟨rb + 18, 0, none⟩), .pointer (some ⟨rb + 19, 0, none⟩)]) ∧ Below (rb + 16) w w' ∧ w'.heap.size = rb + 20 ∧ w'.cell? ⟨rb + 16, 0, none⟩ = some (.pointer (some ⟨rb, 0, none⟩)) ∧ w'.cell? ⟨rb + 17, 0, none⟩ = some (.int .i64 3) ∧ w'.cell? ⟨rb + 18, 0, none⟩ = some ((.func (.func 144) #[] #[.pointer (some ⟨rb + 15, 0, none⟩), .pointer (some ⟨rb + 14, 0, none⟩)])) ∧ w'.cell? ⟨rb + 19, 0, none⟩ = some ((.func (.func 131) #[] #[.pointer (some ⟨rb + 16, 0, none⟩), .pointer (some ⟨rb + 17, 0, none⟩), .pointer (some ⟨rb + 18, 0, none⟩), .pointer (some ⟨rb + 19, 0, none⟩)]))) from fun w h => ahead_mk rb (rb + 16) 3 (.func (.func 144) #[] #[.pointer (some ⟨rb + 15, 0, none⟩), .pointer (some ⟨rb + 14, 0, none⟩)]) w h ⟨_, _, _, rfl⟩)
  have M6 := hid (show ∀ w, w.heap.size = rb + 20 → Calls Tryz.prog 93 #[.pointer (some ⟨rb, 0, none⟩), .int .i64 2, (.func (.func 131) #[] #[.pointer (some ⟨rb + 16, 0, none⟩), .pointer (some ⟨rb + 17, 0, none⟩), .pointer (some ⟨rb + 18, 0, none⟩), .pointer (some ⟨rb + 19, 0, none⟩)])] w (fun e w' => e = .returned (.func (.func 142) #[] #[.pointer (some ⟨rb + 22, 0, none⟩), .pointer (some ⟨rb + 20, 0, none⟩), .pointer (some ⟨rb + 21, 0, none⟩)]) ∧ Below (rb + 20) w w' ∧ w'.heap.size = rb + 23 ∧ w'.cell? ⟨rb + 20, 0, none⟩ = some (.pointer (some ⟨rb, 0, none⟩)) ∧ w'.cell? ⟨rb + 21, 0, none⟩ = some (.int .i64 2) ∧ w'.cell? ⟨rb + 22, 0, none⟩ = some ((.func (.func 131) #[] #[.pointer (some ⟨rb + 16, 0, none⟩), .pointer (some ⟨rb + 17, 0, none⟩), .pointer (some ⟨rb + 18, 0, none⟩), .pointer (some ⟨rb + 19, 0, none⟩)]))) from fun w h => row_mk rb (rb + 20) 2 (.func (.func 131) #[] #[.pointer (some ⟨rb + 16, 0, none⟩), .pointer (some ⟨rb + 17, 0, none⟩), .pointer (some ⟨rb + 18, 0, none⟩), .pointer (some ⟨rb + 19, 0, none⟩)]) w h ⟨_, _, _, rfl⟩)
  have M7 := hid (show ∀ w, w.heap.size = rb + 23 → Calls Tryz.prog 93 #[.pointer (some ⟨rb, 0, none⟩), .int .i64 1, (.func (.func 142) #[] #[.pointer (some ⟨rb + 22, 0, none⟩), .pointer (some ⟨rb + 20, 0, none⟩), .pointer (some ⟨rb + 21, 0, none⟩)])] w (fun e w' => e = .returned (.func (.func 142) #[] #[.pointer (some ⟨rb + 25, 0, none⟩), .pointer (some ⟨rb + 23, 0, none⟩), .pointer (some ⟨rb + 24, 0, none⟩)]) ∧ Below (rb + 23) w w' ∧ w'.heap.size = rb + 26 ∧ w'.cell? ⟨rb + 23, 0, none⟩ = some (.pointer (some ⟨rb, 0, none⟩)) ∧ w'.cell? ⟨rb + 24, 0, none⟩ = some (.int .i64 1) ∧ w'.cell? ⟨rb + 25, 0, none⟩ = some ((.func (.func 142) #[] #[.pointer (some ⟨rb + 22, 0, none⟩), .pointer (some ⟨rb + 20, 0, none⟩), .pointer (some ⟨rb + 21, 0, none⟩)]))) from fun w h => row_mk rb (rb + 23) 1 (.func (.func 142) #[] #[.pointer (some ⟨rb + 22, 0, none⟩), .pointer (some ⟨rb + 20, 0, none⟩), .pointer (some ⟨rb + 21, 0, none⟩)]) w h ⟨_, _, _, rfl⟩)
  have A0 := albl w (.cells #[.slice p xs.length c, .int .i64 J, .int .i64 0, .nilFunc] 116)
  have e0 := heap_alloc_new w (.cells #[.slice p xs.length c, .int .i64 J, .int .i64 0, .nilFunc] 116)
  rw [hrb] at A0 e0
  have hs : (w.alloc (.cells #[.slice p xs.length c, .int .i64 J, .int .i64 0, .nilFunc] 116)).heap.size = rb + 1 := by rw [← hrb]; simp
  have HA0 := hid A0
  have HE0 := hid e0
  have S := hid (show StatK (w.alloc (.cells #[.slice p xs.length c, .int .i64 J, .int .i64 0, .nilFunc] 116)) rb 0 from fun i hi hk => absurd hk (Nat.not_lt_zero _))
  have BB := hid (Below.refl (rb + 1) (w.alloc (.cells #[.slice p xs.length c, .int .i64 J, .int .i64 0, .nilFunc] 116)))
  have HG := hid hg
  have HT := hid ht
  have HJ := hid hJ
  clear A0 e0 hg ht hJ
  go_enter Tryz.func73, Tryz.ntmps73
  go_upto_region 2 with fail
  generalize hW : w.alloc _ = W at *
  clear hW
  go_upto_region 9 with (first
    | (go_at_call 91; go_loud (with_reducible refine (M0.out _ hs).mono ?_); rintro e0 w0 ⟨rfl, b0, hs', q0, q1, q2, q3⟩; have S' := hid ((S.out.below b0).add 4 (fun j hj v hv => by match j, hj with | 0, _ => cases hv; exact q0 | 1, _ => cases hv; exact q1 | 2, _ => cases hv; exact q2 | 3, _ => cases hv; exact q3)); have BB' := hid (BB.out.trans (b0.mono (by omega))); clear hs S BB b0 q0 q1 q2 q3 M0; have hs := hs'; have S := S'; have BB := BB'; clear hs' S' BB')
    | (go_at_call 93; go_loud (with_reducible refine (M1.out _ hs).mono ?_); rintro e1 w1 ⟨rfl, b1, hs', q0, q1, q2⟩; have S' := hid ((S.out.below b1).add 3 (fun j hj v hv => by match j, hj with | 0, _ => cases hv; exact q0 | 1, _ => cases hv; exact q1 | 2, _ => cases hv; exact q2)); have BB' := hid (BB.out.trans (b1.mono (by omega))); clear hs S BB b1 q0 q1 q2 M1; have hs := hs'; have S := S'; have BB := BB'; clear hs' S' BB')
    | (go_at_call 93; go_loud (with_reducible refine (M2.out _ hs).mono ?_); rintro e2 w2 ⟨rfl, b2, hs', q0, q1, q2⟩; have S' := hid ((S.out.below b2).add 3 (fun j hj v hv => by match j, hj with | 0, _ => cases hv; exact q0 | 1, _ => cases hv; exact q1 | 2, _ => cases hv; exact q2)); have BB' := hid (BB.out.trans (b2.mono (by omega))); clear hs S BB b2 q0 q1 q2 M2; have hs := hs'; have S := S'; have BB := BB'; clear hs' S' BB')
    | (go_at_call 93; go_loud (with_reducible refine (M3.out _ hs).mono ?_); rintro e3 w3 ⟨rfl, b3, hs', q0, q1, q2⟩; have S' := hid ((S.out.below b3).add 3 (fun j hj v hv => by match j, hj with | 0, _ => cases hv; exact q0 | 1, _ => cases hv; exact q1 | 2, _ => cases hv; exact q2)); have BB' := hid (BB.out.trans (b3.mono (by omega))); clear hs S BB b3 q0 q1 q2 M3; have hs := hs'; have S := S'; have BB := BB'; clear hs' S' BB')
    | (go_at_call 94; go_loud (with_reducible refine (M4.out _ hs).mono ?_); rintro e4 w4 ⟨rfl, b4, hs', q0, q1⟩; have S' := hid ((S.out.below b4).add 2 (fun j hj v hv => by match j, hj with | 0, _ => cases hv; exact q0 | 1, _ => cases hv; exact q1)); have BB' := hid (BB.out.trans (b4.mono (by omega))); clear hs S BB b4 q0 q1 M4; have hs := hs'; have S := S'; have BB := BB'; clear hs' S' BB')
    | (go_at_call 91; go_loud (with_reducible refine (M5.out _ hs).mono ?_); rintro e5 w5 ⟨rfl, b5, hs', q0, q1, q2, q3⟩; have S' := hid ((S.out.below b5).add 4 (fun j hj v hv => by match j, hj with | 0, _ => cases hv; exact q0 | 1, _ => cases hv; exact q1 | 2, _ => cases hv; exact q2 | 3, _ => cases hv; exact q3)); have BB' := hid (BB.out.trans (b5.mono (by omega))); clear hs S BB b5 q0 q1 q2 q3 M5; have hs := hs'; have S := S'; have BB := BB'; clear hs' S' BB')
    | (go_at_call 93; go_loud (with_reducible refine (M6.out _ hs).mono ?_); rintro e6 w6 ⟨rfl, b6, hs', q0, q1, q2⟩; have S' := hid ((S.out.below b6).add 3 (fun j hj v hv => by match j, hj with | 0, _ => cases hv; exact q0 | 1, _ => cases hv; exact q1 | 2, _ => cases hv; exact q2)); have BB' := hid (BB.out.trans (b6.mono (by omega))); clear hs S BB b6 q0 q1 q2 M6; have hs := hs'; have S := S'; have BB := BB'; clear hs' S' BB')
    | (go_at_call 93; go_loud (with_reducible refine (M7.out _ hs).mono ?_); rintro e7 w7 ⟨rfl, b7, hs', q0, q1, q2⟩; have S' := hid ((S.out.below b7).add 3 (fun j hj v hv => by match j, hj with | 0, _ => cases hv; exact q0 | 1, _ => cases hv; exact q1 | 2, _ => cases hv; exact q2)); have BB' := hid (BB.out.trans (b7.mono (by omega))); clear hs S BB b7 q0 q1 q2 M7; have hs := hs'; have S := S'; have BB := BB'; clear hs' S' BB')
    | fail)
  have M7' := M7
  clear M7
  go_wp2_with (first
    | (go_at_call 93; go_loud (with_reducible refine (M7'.out _ hs).mono ?_); rintro e9 w9 ⟨rfl, b9, hs9, q0, q1, q2⟩
       have S9 := hid ((S.out.below b9).add 3 (fun j hj v hv => by match j, hj with | 0, _ => cases hv; exact q0 | 1, _ => cases hv; exact q1 | 2, _ => cases hv; exact q2))
       have BB9 := hid (BB.out.trans (b9.mono (by omega)))
       have e9 := ((BB.out.trans (b9.mono (by omega))).block rb (Nat.lt_succ_self _)).trans HE0.out
       have HE9 := hid e9
       have hst : (store ⟨rb, 3, none⟩ (.func (.func 142) #[] #[.pointer (some ⟨rb + 25, 0, none⟩), .pointer (some ⟨rb + 23, 0, none⟩), .pointer (some ⟨rb + 24, 0, none⟩)])).run Tryz.prog w9 = .ok () (w9.setCell ⟨rb, 3, none⟩ (.func (.func 142) #[] #[.pointer (some ⟨rb + 25, 0, none⟩), .pointer (some ⟨rb + 23, 0, none⟩), .pointer (some ⟨rb + 24, 0, none⟩)])) := (by
         have c3 : w9.cell? ⟨rb, 3, none⟩ = some .nilFunc := (by rw [Lib.cell_of_heap e9]; rfl)
         have f3 : w9.frozen? ⟨rb, 3, none⟩ = false := Lib.frozen_of_heap e9 3
         rw [run_store Tryz.prog _ _ _ _ (by rfl), c3]
         simp [f3])
       clear b9 q0 q1 q2 e9)
    | fail)
  go_ret
  have hx := heap_setCell_same w9 rb 3 _ _ (.func (.func 142) #[] #[.pointer (some ⟨rb + 25, 0, none⟩), .pointer (some ⟨rb + 23, 0, none⟩), .pointer (some ⟨rb + 24, 0, none⟩)]) HE9.out
  have hB : Below rb w (w9.setCell ⟨rb, 3, none⟩ (.func (.func 142) #[] #[.pointer (some ⟨rb + 25, 0, none⟩), .pointer (some ⟨rb + 23, 0, none⟩), .pointer (some ⟨rb + 24, 0, none⟩)])) := (HA0.out.trans (BB9.out.mono (Nat.le_succ _))).setCell (p := ⟨rb, 3, none⟩) (Nat.le_refl _) _
  have CB : Chg (fun _ => False) w (w9.setCell ⟨rb, 3, none⟩ (.func (.func 142) #[] #[.pointer (some ⟨rb + 25, 0, none⟩), .pointer (some ⟨rb + 23, 0, none⟩), .pointer (some ⟨rb + 24, 0, none⟩)])) := Chg.of_below (by rw [hrb]; exact hB)
  have hgl1 := (Array.getElem?_eq_some_iff.1 HG.out.1).1
  have hgl2 := (Array.getElem?_eq_some_iff.1 HG.out.2).1
  refine ⟨rfl, hB, ⟨?_, ?_, ?_, ?_, fun i => Lib.frozen_of_heap hx i, fun i hi => ?_, HG.out.chg CB id id, ⟨by omega, by omega⟩, HT.out.chg CB (fun _ _ _ => id), fun b off e => ?_, hsuf, hlen, by omega, hnn, hpls, htxt⟩⟩
  · rw [Lib.cell_of_heap hx]; rfl
  · rw [Lib.cell_of_heap hx, ← HJ.out]; rfl
  · rw [Lib.cell_of_heap hx]; rfl
  · rw [Lib.cell_of_heap hx]; rfl
  · have h1 := S9.out i hi (by have : (statV rb).length = 25 := rfl; omega)
    exact (World.cell?_of_block (w := w9) (a := ⟨rb + (i + 1), 0, none⟩) (Below.heap_setCell _ _ _ _ (by show rb + (i + 1) ≠ rb; omega))).trans h1
  · obtain ⟨b2, off2, e2, q0, _⟩ := HT.out.at hnn
    rw [e] at e2
    cases e2
    have := cell_lt q0
    simp only at this
    omega
end Go.Proofs.YtblkhlhhlalbkaaGreatDoor
namespace Go.Proofs.YtblkhlhhlalbkaaGreatDoor
open Go.RowKit Go.Lib Go.Sort
set_option linter.unusedVariables false
set_option maxRecDepth 20000

theorem assert_flt (v : Value) (w : World) : (Instr.typeAssert (.iface 100 v) 20 100 false).run Tryz.prog w = .ok v w := by kernel_rfl
theorem catch_idle (a b c : Addr) (w : World) :
    CallsD Tryz.prog 72 #[.pointer (some a), .pointer (some b), .pointer (some c)] .returning w fun e u' w' => e = .returned (.tuple #[]) ∧ u' = .returning ∧ w' = w := by
  refine callsD_of_wpS Tryz.func72 rfl fun c₀ cs hu => ?_
  apply wpS_seq
  apply wpS_region
  simp [wpOpsS, go_sem, recoverD, hu, Tryz.ntmps72, Exit.thenS]
  refine wpS_of_wp ?_
  change Code.wp _ _ _ { tmps := #[.pointer (some a), .pointer (some b), .pointer (some c), .nilIface, .nilIface, undef, undef, undef, undef, undef, undef], defers := [] } w
  go_wp2
  cases c₀
  simp_all [bodyPostS, results, Tryz.results72]
set_option maxHeartbeats 8000000 in
theorem catch_panicking (eb fb : Nat) (w : World) (hx : ResX w eb) (c1 : w.cell? ⟨eb + 1, 0, none⟩ = some (.int .i64 0)) (f1 : w.frozen? ⟨eb + 1, 0, none⟩ = false) (c2 : w.cell? ⟨eb + 2, 0, none⟩ = some .nilIface) (f2 : w.frozen? ⟨eb + 2, 0, none⟩ = false) :
    CallsD Tryz.prog 72 #[.pointer (some ⟨eb, 0, none⟩), .pointer (some ⟨eb + 1, 0, none⟩), .pointer (some ⟨eb + 2, 0, none⟩)] (.panicking (thrF fb)) w fun e u' w' =>
      e = .returned (.tuple #[]) ∧ u' = .panicking [{ v := .iface 100 (.pointer (some ⟨fb, 0, none⟩)), recovered := true }] ∧ ResX w' eb ∧ w'.cell? ⟨eb + 1, 0, none⟩ = some (.int .i64 0) ∧ w'.cell? ⟨eb + 2, 0, none⟩ = some (.iface 100 (.pointer (some ⟨fb, 0, none⟩))) ∧ Chg (fun k => k = eb ∨ k = eb + 1 ∨ k = eb + 2) w w' := by
  refine callsD_of_wpS Tryz.func72 rfl fun c₀ cs hu => ?_
  apply wpS_seq
  apply wpS_region
  unfold thrF at hu
  simp [wpOpsS, go_sem, recoverD, hu, Tryz.ntmps72, Exit.thenS]
  refine wpS_of_wp ?_
  change Code.wp _ _ _ { tmps := #[.pointer (some ⟨eb, 0, none⟩), .pointer (some ⟨eb + 1, 0, none⟩), .pointer (some ⟨eb + 2, 0, none⟩), .iface 100 (.pointer (some ⟨fb, 0, none⟩)), .iface 100 (.pointer (some ⟨fb, 0, none⟩)), undef, undef, undef, undef, undef, undef], defers := [] } w
  have hta := assert_flt
  obtain ⟨z0, z1, z2, z3, z4, z5, z6, z7, z8, z9⟩ := hx.cells
  have zf := hx.frozen
  go_upto_region 2 with fail
  go_region
  have K := put10_chg w eb (.int .i64 0) (.int .i64 0) (.int .i64 0) (.int .i64 0) (.string ⟨#[]⟩) (.string ⟨#[]⟩) (.string ⟨#[]⟩) (.int .i64 0) (.int .i64 0) (.slice none 0 0)
  have R1 : ResX (put10 w eb (.int .i64 0) (.int .i64 0) (.int .i64 0) (.int .i64 0) (.string ⟨#[]⟩) (.string ⟨#[]⟩) (.string ⟨#[]⟩) (.int .i64 0) (.int .i64 0) (.slice none 0 0)) eb := BX.put (e := ⟨0, 0, v0, [], [], []⟩) (e' := ⟨0, 0, v0, [], [], []⟩) (p := none) (p' := none) (c := 0) (c' := 0) hx
  unfold put10 at K R1
  generalize hW : World.setCell _ ⟨eb, 9, none⟩ _ = W at *
  clear hW
  have d1 := K.cell c1 (show ¬ (eb + 1 = eb) by omega)
  have d2 := K.cell c2 (show ¬ (eb + 2 = eb) by omega)
  have C1 : Chg (· = eb + 1) W (W.setCell ⟨eb + 1, 0, none⟩ (.int .i64 0)) := chg_set (Chg.refl _ _) _
  have C2 : Chg (· = eb + 2) (W.setCell ⟨eb + 1, 0, none⟩ (.int .i64 0)) ((W.setCell ⟨eb + 1, 0, none⟩ (.int .i64 0)).setCell ⟨eb + 2, 0, none⟩ (.iface 100 (.pointer (some ⟨fb, 0, none⟩)))) := chg_set (Chg.refl _ _) _
  have R2 := (R1.chg C1 (show ¬ (eb = eb + 1) by omega)).chg C2 (show ¬ (eb = eb + 2) by omega)
  have g1 : (W.setCell ⟨eb + 1, 0, none⟩ (.int .i64 0)).cell? ⟨eb + 1, 0, none⟩ = some (.int .i64 0) := by simp [go_sem, d1]
  have g1' := C2.cell g1 (show ¬ (eb + 1 = eb + 2) by omega)
  have d2' := C1.cell d2 (show ¬ (eb + 2 = eb + 1) by omega)
  have g2 : ((W.setCell ⟨eb + 1, 0, none⟩ (.int .i64 0)).setCell ⟨eb + 2, 0, none⟩ (.iface 100 (.pointer (some ⟨fb, 0, none⟩)))).cell? ⟨eb + 2, 0, none⟩ = some (.iface 100 (.pointer (some ⟨fb, 0, none⟩))) := by simp [go_sem, d2']
  have CC : Chg (fun k => k = eb ∨ k = eb + 1 ∨ k = eb + 2) w ((W.setCell ⟨eb + 1, 0, none⟩ (.int .i64 0)).setCell ⟨eb + 2, 0, none⟩ (.iface 100 (.pointer (some ⟨fb, 0, none⟩)))) := ((K.mono (G := fun k => k = eb ∨ k = eb + 1 ∨ k = eb + 2) (fun j _ q => Or.inl q)).trans C1 (fun j _ q => Or.inr (Or.inl q))).trans C2 (fun j _ q => Or.inr (Or.inr q))
  show bodyPostS _ _ _ _ _ Exit.normal _ _ _
  simp [bodyPostS, results, Tryz.results72]
  exact ⟨R2, g1', g2, CC.drew⟩
end Go.Proofs.YtblkhlhhlalbkaaGreatDoor
namespace Go.Proofs.YtblkhlhhlalbkaaGreatDoor
open Go.RowKit Go.Lib Go.Sort
set_option linter.unusedVariables false
set_option maxRecDepth 20000

/-- What Read answers. -/
def readEnd (xs : Ts) (x : Rd Ex) (w : World) (e : Ending) (w' : World) : Prop :=
  Below w.heap.size w w' ∧ match x with
    | .ok y => ∃ v, e = .returned (.tuple #[v, .int .i64 ((xs.length : Int) - (y.2.length : Int)), .nilIface]) ∧ QX w.heap.size w' v y.1
    | .error y => ∃ b, e = .returned (.tuple #[.agg #[.int .i64 0, .int .i64 0, .int .i64 0, .int .i64 0, .string ⟨#[]⟩, .string ⟨#[]⟩, .string ⟨#[]⟩, .int .i64 0, .int .i64 0, .slice none 0 0], .int .i64 0, .iface 100 (.pointer (some ⟨b, 0, none⟩))]) ∧ Flt w' b (plc xs y.1) y.2
theorem hLines (rb : Nat) (p : Option Addr) (c : Nat) (xs l : Ts) (w : World) (r : RS w rb p c xs l 32) : Calls Tryz.prog 142 #[.pointer (some ⟨rb + 25, 0, none⟩), .pointer (some ⟨rb + 23, 0, none⟩), .pointer (some ⟨rb + 24, 0, none⟩)] w (RdE (QX w.heap.size) rb p c xs 32 ((lns 32).orr l) w) := (lines_ok 32).2.2 w l r
set_option maxHeartbeats 16000000 in
theorem read_any {p : Option Addr} {c : Nat} {xs : Ts} (i : Nat) (w : World) (hi : i < xs.length) (ht : TR w p xs) (hg : Gl w) (hlen : xs.length ≤ 140737488351232) (hpls : ∀ i (h : i < xs.length), xs[i].2 ≤ 140737488351232) (htxt : ∀ x, x ∈ xs → x.1.s.length ≤ 140737488351232) :
    Calls Tryz.prog 57 #[.slice p xs.length c, .int .i64 (i : Int)] w (readEnd xs ((lns 32).orr (xs.drop i)) w) := by
  have hmf' := hmf
  obtain ⟨hs, e1, e2, e3⟩ := alc3 w (.cells #[.int .i64 0, .int .i64 0, .int .i64 0, .int .i64 0, .string ⟨#[]⟩, .string ⟨#[]⟩, .string ⟨#[]⟩, .int .i64 0, .int .i64 0, .slice none 0 0] 26) (.cells #[.int .i64 0] 3) (.cells #[.nilIface] 87)
  have B3 := (((Below.refl w.heap.size w).alloc (Nat.le_refl _) (.cells #[.int .i64 0, .int .i64 0, .int .i64 0, .int .i64 0, .string ⟨#[]⟩, .string ⟨#[]⟩, .string ⟨#[]⟩, .int .i64 0, .int .i64 0, .slice none 0 0] 26)).alloc (by simp) (.cells #[.int .i64 0] 3)).alloc (by simp; omega) (.cells #[.nilIface] 87)
  have HB := hid B3
  have HN := hid (newReader_any (c := c) (l := xs.drop i) (i : Int) (((w.alloc (.cells #[.int .i64 0, .int .i64 0, .int .i64 0, .int .i64 0, .string ⟨#[]⟩, .string ⟨#[]⟩, .string ⟨#[]⟩, .int .i64 0, .int .i64 0, .slice none 0 0] 26)).alloc (.cells #[.int .i64 0] 3)).alloc (.cells #[.nilIface] 87)) (by rw [List.length_drop]; omega) (ht.below B3) (hg.chg (F := fun _ => False) (Chg.of_below B3) id id) (List.drop_suffix _ _) hlen (by omega) hpls htxt)
  rw [hs] at HN
  have HRes : Hid (ResX (((w.alloc (.cells #[.int .i64 0, .int .i64 0, .int .i64 0, .int .i64 0, .string ⟨#[]⟩, .string ⟨#[]⟩, .string ⟨#[]⟩, .int .i64 0, .int .i64 0, .slice none 0 0] 26)).alloc (.cells #[.int .i64 0] 3)).alloc (.cells #[.nilIface] 87)) w.heap.size) := e1
  have HO2 := hid e2
  have k1 := hid (And.intro (show (((w.alloc (.cells #[.int .i64 0, .int .i64 0, .int .i64 0, .int .i64 0, .string ⟨#[]⟩, .string ⟨#[]⟩, .string ⟨#[]⟩, .int .i64 0, .int .i64 0, .slice none 0 0] 26)).alloc (.cells #[.int .i64 0] 3)).alloc (.cells #[.nilIface] 87)).cell? ⟨w.heap.size + 1, 0, none⟩ = some (.int .i64 0) by rw [Lib.cell_of_heap e2]; rfl) (Lib.frozen_of_heap e2 0))
  have k2 := hid (And.intro (show (((w.alloc (.cells #[.int .i64 0, .int .i64 0, .int .i64 0, .int .i64 0, .string ⟨#[]⟩, .string ⟨#[]⟩, .string ⟨#[]⟩, .int .i64 0, .int .i64 0, .slice none 0 0] 26)).alloc (.cells #[.int .i64 0] 3)).alloc (.cells #[.nilIface] 87)).cell? ⟨w.heap.size + 2, 0, none⟩ = some .nilIface by rw [Lib.cell_of_heap e3]; rfl) (Lib.frozen_of_heap e3 0))
  have hi1 : ¬ (i : Int) < 0 := by omega
  have hi2 : ¬ (xs.length : Int) ≤ (i : Int) := by omega
  obtain ⟨R, hres⟩ : ∃ R, (lns 32).orr (xs.drop i) = R := ⟨_, rfl⟩
  rw [hres]
  have HLi := hid (fun w' (r : RS w' (w.heap.size + 3) p c xs (xs.drop i) 32) => hLines (w.heap.size + 3) p c xs (xs.drop i) w' r)
  rw [hres] at HLi
  unfold RdE QX QF at HLi
  clear e1 e2 e3 B3 ht hg hres
  cases R with
  | error x =>
    simp only [] at HLi
    go_enter_defers Tryz.func57, Tryz.ntmps57
    go_upto_region 4 with fail
    generalize hW : World.alloc _ (.cells #[.nilIface] 87) = W at *
    clear hW
    go_wp2_with (first
      | (go_at_call 73; go_loud (with_reducible refine HN.out.mono ?_); rintro e1 w1 ⟨rfl, b1, r1⟩; have B1 := hid b1; have c3 := r1.c3; rw [orV_eq] at c3; have HL := hid (HLi.out _ r1); have hs1 := b1.size; clear b1 r1)
      | (go_at_call 142; go_loud (with_reducible refine HL.out.mono ?_); rintro e2 w2 ⟨c2, fb, rfl, f2⟩)
      | fail)
    have CB : Chg (· = w.heap.size + 3) W w2 := chg_trans (chg_below (by rw [hs]; exact B1.out)) c2
    have hr2 := HRes.out.chg CB (show ¬ (w.heap.size = w.heap.size + 3) by omega)
    have q1 := CB.cell k1.out.1 (show ¬ (w.heap.size + 1 = w.heap.size + 3) by omega)
    have g1 := (CB.frozen (p := ⟨w.heap.size + 1, 0, none⟩) (show w.heap.size + 1 < W.heap.size by omega) (show ¬ (w.heap.size + 1 = w.heap.size + 3) by omega)).trans k1.out.2
    have q2 := CB.cell k2.out.1 (show ¬ (w.heap.size + 2 = w.heap.size + 3) by omega)
    have g2 := (CB.frozen (p := ⟨w.heap.size + 2, 0, none⟩) (show w.heap.size + 2 < W.heap.size by omega) (show ¬ (w.heap.size + 2 = w.heap.size + 3) by omega)).trans k2.out.2
    refine leaves_cons (f := 72) (args := #[.pointer (some ⟨w.heap.size, 0, none⟩), .pointer (some ⟨w.heap.size + 1, 0, none⟩), .pointer (some ⟨w.heap.size + 2, 0, none⟩)]) (by simp) (by simp [go_sem]) ?_
    refine (catch_panicking w.heap.size fb w2 hr2 q1 g1 q2 g2).mono ?_
    rintro e u' w9 ⟨rfl, rfl, r9, t1, t2, c9⟩
    obtain ⟨z0, z1, z2, z3, z4, z5, z6, z7, z8, z9⟩ := r9.cells
    have t2' : w9.cell? ⟨w.heap.size + 1 + 1, 0, none⟩ = some (.iface 100 (.pointer (some ⟨fb, 0, none⟩))) := t2
    have hfb : ¬ (fb = w.heap.size ∨ fb = w.heap.size + 1 ∨ fb = w.heap.size + 2) := by
      rintro (rfl | rfl | rfl)
      · have := f2.2; rw [hr2.cells.2.1] at this; cases this
      · have h2 := f2.2
        have h3 := (CB.block (w.heap.size + 1) (by omega) (show ¬ (w.heap.size + 1 = w.heap.size + 3) by omega)).trans HO2.out
        rw [Lib.cell_of_heap h3] at h2
        cases h2
      · have := f2.1; rw [q2] at this; cases this
    simp [Leaves, settle, results, Tryz.results57, go_sem, z0, z1, z2, z3, z4, z5, z6, z7, z8, z9, t1, t2']
    refine ⟨?_, fb, rfl, c9.cell f2.1 hfb, c9.cell f2.2 hfb⟩
    exact (HB.out.trans (CB.below (B := w.heap.size) (fun k q => by omega) (by omega))).trans (c9.below (fun k q => by omega) (by have := CB.size; omega))
  | ok y =>
    obtain ⟨e, l1⟩ := y
    simp only [] at HLi
    go_enter_defers Tryz.func57, Tryz.ntmps57
    go_upto_region 4 with fail
    generalize hW : World.alloc _ (.cells #[.nilIface] 87) = W at *
    clear hW
    go_upto_region 6 with (first
      | (go_at_call 73; go_loud (with_reducible refine HN.out.mono ?_); rintro e1 w1 ⟨rfl, b1, r1⟩; have B1 := hid b1; have c3 := r1.c3; rw [orV_eq] at c3; have HL := hid (HLi.out _ r1); have hs1 := b1.size; clear b1 r1)
      | (go_at_call 142; go_loud (with_reducible refine HL.out.mono ?_); rintro e2 w2 ⟨c2, v2, rfl, ⟨pe, ce, rfl, k2', E2, hcp2⟩, r2⟩; have CB := hid (chg_trans (chg_below (rb := w.heap.size + 3) (show Below W.heap.size W w1 by rw [hs]; exact B1.out)) c2); have HE2 := hid E2; have HR2 := hid r2; have res2 := HRes.out.chg CB.out (show ¬ (w.heap.size = w.heap.size + 3) by omega); obtain ⟨z0, z1, z2, z3, z4, z5, z6, z7, z8, z9⟩ := res2.cells; have zf := res2.frozen; have HRS2 := hid res2; clear c2 E2 r2 res2)
      | fail)
    have K := put10_chg w2 w.heap.size (.int .i64 e.k) (.int .i64 e.op) (.int .i64 e.v.k) (.int .i64 e.v.n) (.string e.v.s) (.string ⟨e.t.toArray⟩) (.string ⟨e.n.toArray⟩) (.int .i64 0) (.int .i64 0) (.slice pe e.xs.length ce)
    have R1 := hid (BX.put (e := ⟨0, 0, v0, [], [], []⟩) (e' := e) (p := none) (p' := pe) (c := 0) (c' := ce) HRS2.out)
    unfold put10 at K R1
    generalize hW5 : World.setCell _ ⟨w.heap.size, 9, none⟩ _ = W5 at *
    clear hW5 z0 z1 z2 z3 z4 z5 z6 z7 z8 z9 zf
    have CB5 : Chg (fun k => k = w.heap.size + 3 ∨ k = w.heap.size) W W5 := (CB.out.mono (fun j _ q => Or.inl q)).trans K (fun j _ q => Or.inr q)
    obtain ⟨y0, y1, y2, y3, y4, y5, y6, y7, y8, y9⟩ := R1.out.xc
    simp only [Nat.zero_add] at y0 y1 y2 y3 y4 y5 y6 y7 y8 y9
    have yf := R1.out.frozen
    have q1 := CB5.cell k1.out.1 (show ¬ (w.heap.size + 1 = w.heap.size + 3 ∨ w.heap.size + 1 = w.heap.size) by omega)
    have g1 := (CB5.frozen (p := ⟨w.heap.size + 1, 0, none⟩) (show w.heap.size + 1 < W.heap.size by omega) (show ¬ (w.heap.size + 1 = w.heap.size + 3 ∨ w.heap.size + 1 = w.heap.size) by omega)).trans k1.out.2
    have q2 : W5.cell? ⟨w.heap.size + 1 + 1, 0, none⟩ = some .nilIface := CB5.cell k2.out.1 (show ¬ (w.heap.size + 2 = w.heap.size + 3 ∨ w.heap.size + 2 = w.heap.size) by omega)
    have g2 : W5.frozen? ⟨w.heap.size + 1 + 1, 0, none⟩ = false := (CB5.frozen (p := ⟨w.heap.size + 2, 0, none⟩) (show w.heap.size + 2 < W.heap.size by omega) (show ¬ (w.heap.size + 2 = w.heap.size + 3 ∨ w.heap.size + 2 = w.heap.size) by omega)).trans k2.out.2
    have c1 := K.cell HR2.out.c1 (show ¬ (w.heap.size + 3 = w.heap.size) by omega)
    have HK := hid K
    have HC5 := hid CB5
    clear K CB5
    go_region
    have K6 := put10_chg W5 w.heap.size (.int .i64 e.k) (.int .i64 e.op) (.int .i64 e.v.k) (.int .i64 e.v.n) (.string e.v.s) (.string ⟨e.t.toArray⟩) (.string ⟨e.n.toArray⟩) (.int .i64 0) (.int .i64 0) (.slice pe e.xs.length ce)
    have R6 := BX.put (e := e) (e' := e) (p := pe) (p' := pe) (c := ce) (c' := ce) R1.out
    unfold put10 at K6 R6
    generalize hW6 : World.setCell _ ⟨w.heap.size, 9, none⟩ _ = W6 at *
    clear hW6 y0 y1 y2 y3 y4 y5 y6 y7 y8 y9 yf c1
    have p1 := K6.cell q1 (show ¬ (w.heap.size + 1 = w.heap.size) by omega)
    have p2 := K6.cell q2 (show ¬ (w.heap.size + 1 + 1 = w.heap.size) by omega)
    generalize hN9 : (xs.length : Int) - (l1.length : Int) = N9 at *
    have C7 : Chg (· = w.heap.size + 1) W6 (W6.setCell ⟨w.heap.size + 1, 0, none⟩ (.int .i64 N9)) := chg_set (Chg.refl _ _) _
    have C8 : Chg (· = w.heap.size + 1 + 1) (W6.setCell ⟨w.heap.size + 1, 0, none⟩ (.int .i64 N9)) ((W6.setCell ⟨w.heap.size + 1, 0, none⟩ (.int .i64 N9)).setCell ⟨w.heap.size + 1 + 1, 0, none⟩ .nilIface) := chg_set (Chg.refl _ _) _
    have R8 := (R6.chg C7 (show ¬ (w.heap.size = w.heap.size + 1) by omega)).chg C8 (show ¬ (w.heap.size = w.heap.size + 1 + 1) by omega)
    have t1 : (W6.setCell ⟨w.heap.size + 1, 0, none⟩ (.int .i64 N9)).cell? ⟨w.heap.size + 1, 0, none⟩ = some (.int .i64 N9) := by simp [go_sem, p1]
    have t1' := C8.cell t1 (show ¬ (w.heap.size + 1 = w.heap.size + 1 + 1) by omega)
    have p2' := C7.cell p2 (show ¬ (w.heap.size + 1 + 1 = w.heap.size + 1) by omega)
    have t2 : ((W6.setCell ⟨w.heap.size + 1, 0, none⟩ (.int .i64 N9)).setCell ⟨w.heap.size + 1 + 1, 0, none⟩ .nilIface).cell? ⟨w.heap.size + 1 + 1, 0, none⟩ = some .nilIface := by simp [go_sem, p2']
    have CC : Chg (fun k => k = w.heap.size ∨ k = w.heap.size + 1 ∨ k = w.heap.size + 1 + 1) w2 ((W6.setCell ⟨w.heap.size + 1, 0, none⟩ (.int .i64 N9)).setCell ⟨w.heap.size + 1 + 1, 0, none⟩ .nilIface) := ((((HK.out.trans K6 (fun j _ q => q)).mono (G := fun k => k = w.heap.size ∨ k = w.heap.size + 1 ∨ k = w.heap.size + 1 + 1) (fun j _ q => Or.inl q)).trans C7 (fun j _ q => Or.inr (Or.inl q))).trans C8 (fun j _ q => Or.inr (Or.inr q)))
    replace CC := CC.drew
    replace t1' : ((W6.setCell ⟨w.heap.size + 1, 0, none⟩ (.int .i64 N9)).setCell ⟨w.heap.size + 1 + 1, 0, none⟩ .nilIface).drew.cell? ⟨w.heap.size + 1, 0, none⟩ = some (.int .i64 N9) := t1'
    replace t2 : ((W6.setCell ⟨w.heap.size + 1, 0, none⟩ (.int .i64 N9)).setCell ⟨w.heap.size + 1 + 1, 0, none⟩ .nilIface).drew.cell? ⟨w.heap.size + 1 + 1, 0, none⟩ = some .nilIface := t2
    replace R8 : BX ((W6.setCell ⟨w.heap.size + 1, 0, none⟩ (.int .i64 N9)).setCell ⟨w.heap.size + 1 + 1, 0, none⟩ .nilIface).drew w.heap.size e pe ce := R8
    generalize hW9 : World.drew _ = W9 at *
    clear hW9 t1 p1 p2 p2' C7 C8 R6 K6 q1 q2 g1 g2
    obtain ⟨y0, y1, y2, y3, y4, y5, y6, y7, y8, y9⟩ := R8.xc
    simp only [Nat.zero_add] at y0 y1 y2 y3 y4 y5 y6 y7 y8 y9
    go_wp2
    refine leaves_cons (f := 72) (args := #[.pointer (some ⟨w.heap.size, 0, none⟩), .pointer (some ⟨w.heap.size + 1, 0, none⟩), .pointer (some ⟨w.heap.size + 1 + 1, 0, none⟩)]) (by simp) (by simp [go_sem]) ?_
    refine (catch_idle _ _ _ W9).mono ?_
    rintro e9 u' w9 ⟨rfl, rfl, rfl⟩
    simp [Leaves, settle, results, Tryz.results57, go_sem, y0, y1, y2, y3, y4, y5, y6, y7, y8, y9, t1', t2]
    refine ⟨?_, _, by rw [hN9], pe, ce, rfl, k2', ?_, hcp2⟩
    · exact (HB.out.trans (CB.out.below (B := w.heap.size) (fun k q => by omega) (by omega))).trans (CC.below (fun k q => by omega) (by have := CB.out.size; omega))
    · exact (HE2.out.mono (G := fun j => w.heap.size + 3 ≤ j) (fun j _ q => by omega)).chg CC (fun j q r => by omega) |>.mono (fun j _ q => by omega)
end Go.Proofs.YtblkhlhhlalbkaaGreatDoor
namespace Go.Proofs.YtblkhlhhlalbkaaGreatDoor
open Go.RowKit Go.Lib Go.Sort
set_option linter.unusedVariables false
set_option maxRecDepth 20000

set_option maxHeartbeats 8000000 in
theorem read_no (p : Option Addr) (n c : Nat) (J : Int) (w : World) (hJ : J < 0 ∨ (n : Int) ≤ J) :
    Calls Tryz.prog 57 #[.slice p n c, .int .i64 J] w fun e w' => Below w.heap.size w w' ∧ ∃ b, e = .returned (.tuple #[.agg #[.int .i64 0, .int .i64 0, .int .i64 0, .int .i64 0, .string ⟨#[]⟩, .string ⟨#[]⟩, .string ⟨#[]⟩, .int .i64 0, .int .i64 0, .slice none 0 0], .int .i64 0, .iface 100 (.pointer (some ⟨b, 0, none⟩))]) ∧ Flt w' b 0 20 := by
  unfold Flt
  by_cases hn : J < 0
  · go_enter_defers Tryz.func57, Tryz.ntmps57
    go_wp2
    simp [bodyPostD, Leaves, results, Tryz.results57, go_sem]
    go_grown
  · have hl : (n : Int) ≤ J := by omega
    go_enter_defers Tryz.func57, Tryz.ntmps57
    go_wp2
    simp [bodyPostD, Leaves, results, Tryz.results57, go_sem]
    go_grown
end Go.Proofs.YtblkhlhhlalbkaaGreatDoor
