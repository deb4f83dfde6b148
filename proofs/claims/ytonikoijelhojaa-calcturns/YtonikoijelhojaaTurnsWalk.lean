/- The law CalcTurns returns true and writes nothing that was there. Conditions: the numbers are within the numbers, the texts' lengths together are Go's. -/
import Derived.Test.YtonikoijelhojaaTurnLaws
import Derived.Test.YtonikoijelhojaaBoxHeld
namespace Go.Proofs.Ytonikoijelhojaa
open Go.RowKit Go.Lib Go.Sort
set_option linter.unusedVariables false

/-- The operators that the law goes through. -/
def Ops (w : World) (b : Nat) : Prop := ∀ j, j < 6 → w.cell? ⟨b, j, none⟩ = some (.int .i64 (turnOp j))
theorem ops_new (w : World) (t : TypeId) : Ops (w.alloc (.cells #[.int .i64 4, .int .i64 3, .int .i64 5, .int .i64 6, .int .i64 11, .int .i64 13] t)) w.heap.size := by
  intro j hj
  have : j = 0 ∨ j = 1 ∨ j = 2 ∨ j = 3 ∨ j = 4 ∨ j = 5 := by omega
  rcases this with rfl | rfl | rfl | rfl | rfl | rfl <;> simp [turnOp] <;> go_simp

/-- The two values' variables and the operators. -/
def TH (w : World) (a b : Nat) (u v : Val) (l : Nat) : Prop := Box w a u ∧ Box w b v ∧ Ops w l
theorem TH.below {w w' : World} {a b l : Nat} {u v : Val} (h : TH w a b u v l) (k : Below w.heap.size w w') : TH w' a b u v l := ⟨h.1.below k, h.2.1.below k, fun j hj => below_cell k (h.2.2 j hj)⟩
theorem TH.drew {w : World} {a b l : Nat} {u v : Val} (h : TH w a b u v l) : TH w.drew a b u v l := h.below ((Below.refl _ _).drew)
theorem TH.alloc {w : World} {a b l : Nat} {u v : Val} (h : TH w a b u v l) (o : Obj) : TH (w.alloc o) a b u v l := h.below ((Below.refl _ _).alloc (Nat.le_refl _) o)
theorem TH.lt {w : World} {a b l : Nat} {u v : Val} (h : TH w a b u v l) : a < w.heap.size ∧ b < w.heap.size ∧ l < w.heap.size := ⟨cell_lt h.1.1, cell_lt h.2.1.1, cell_lt (h.2.2 0 (by decide))⟩
theorem TH.put3 {w : World} {a b l d : Nat} {u v : Val} (h : TH w a b u v l) (hd : a < d ∧ b < d ∧ l < d) (x y z : Value) : TH (((w.setCell ⟨d, 0, none⟩ x).setCell ⟨d, 1, none⟩ y).setCell ⟨d, 2, none⟩ z) a b u v l :=
  ⟨h.1.put3 (ne_lo hd.1) x y z, h.2.1.put3 (ne_lo hd.2.1) x y z, fun j hj => by
    rw [World.cell?_setCell_far _ _ _ _ (ne_lo hd.2.2), World.cell?_setCell_far _ _ _ _ (ne_lo hd.2.2), World.cell?_setCell_far _ _ _ _ (ne_lo hd.2.2)]
    exact h.2.2 j hj⟩
theorem TH.seven {w : World} {a b l : Nat} {k1 n1 k2 n2 : Int} {s1 s2 : ByteArray} (h : TH w a b ⟨k1, n1, s1⟩ ⟨k2, n2, s2⟩ l) {j : Nat} (hj : j < 6) :
    w.cell? ⟨l, j, none⟩ = some (.int .i64 (turnOp j)) ∧ w.cell? ⟨a, 0, none⟩ = some (.int .i64 k1) ∧ w.cell? ⟨a, 1, none⟩ = some (.int .i64 n1) ∧ w.cell? ⟨a, 2, none⟩ = some (.string s1) ∧
    w.cell? ⟨b, 0, none⟩ = some (.int .i64 k2) ∧ w.cell? ⟨b, 1, none⟩ = some (.int .i64 n2) ∧ w.cell? ⟨b, 2, none⟩ = some (.string s2) := ⟨h.2.2 j hj, h.1.1, h.1.2.1, h.1.2.2.1, h.2.1.1, h.2.1.2.1, h.2.1.2.2.1⟩
theorem TH.get {w : World} {a b l : Nat} {k1 n1 k2 n2 : Int} {s1 s2 : ByteArray} (h : TH w a b ⟨k1, n1, s1⟩ ⟨k2, n2, s2⟩ l) :
    w.cell? ⟨a, 0, none⟩ = some (.int .i64 k1) ∧ w.cell? ⟨a, 1, none⟩ = some (.int .i64 n1) ∧ w.cell? ⟨a, 2, none⟩ = some (.string s1) ∧ a < w.heap.size ∧
    w.cell? ⟨b, 0, none⟩ = some (.int .i64 k2) ∧ w.cell? ⟨b, 1, none⟩ = some (.int .i64 n2) ∧ w.cell? ⟨b, 2, none⟩ = some (.string s2) ∧ b < w.heap.size := ⟨h.1.1, h.1.2.1, h.1.2.2.1, h.lt.1, h.2.1.1, h.2.1.2.1, h.2.1.2.2.1, h.lt.2.1⟩

/-- One of the operators, either way round. -/
theorem turn_pair (k1 n1 k2 n2 : Int) (s1 s2 : ByteArray) (hx : inR n1) (hy : inR n2) (hl : s1.size + s2.size ≤ maxLen) (j : Nat) (hj : j < 6) :
    ∃ (xk xn : Int) (xs : ByteArray) (xe : Int), (∀ w, Calls Try.prog 10 #[.int .i64 (turnOp j), .agg #[.int .i64 k1, .int .i64 n1, .string s1], .agg #[.int .i64 k2, .int .i64 n2, .string s2]] w fun x w' => x = .returned (.tuple #[.agg #[.int .i64 xk, .int .i64 xn, .string xs], .int .i64 xe]) ∧ Below w.heap.size w w') ∧
      (∀ w, Calls Try.prog 10 #[.int .i64 (turnOp j), .agg #[.int .i64 k2, .int .i64 n2, .string s2], .agg #[.int .i64 k1, .int .i64 n1, .string s1]] w fun x w' => x = .returned (.tuple #[.agg #[.int .i64 xk, .int .i64 xn, .string xs], .int .i64 xe]) ∧ Below w.heap.size w w') := by
  have h1 := fun w => binary_any (turnOp j) ⟨k1, n1, s1⟩ ⟨k2, n2, s2⟩ w hx hy hl
  have h2 := fun w => binary_any (turnOp j) ⟨k2, n2, s2⟩ ⟨k1, n1, s1⟩ w hy hx (by rw [Nat.add_comm]; exact hl)
  rw [bin_turn (turnOp j) (by
    have : j = 0 ∨ j = 1 ∨ j = 2 ∨ j = 3 ∨ j = 4 ∨ j = 5 := by omega
    rcases this with rfl | rfl | rfl | rfl | rfl | rfl <;> decide) ⟨k2, n2, s2⟩ ⟨k1, n1, s1⟩] at h2
  exact ⟨_, _, _, _, h1, h2⟩

theorem lit_bin (op : Int) (a b : Val) (x : Ans) (hb : binV op a b = x) (hx : inR a.n) (hy : inR b.n) (hl : a.s.size + b.s.size ≤ maxLen) (w : World) :
    Calls Try.prog 10 #[.int .i64 op, .agg #[.int .i64 a.k, .int .i64 a.n, .string a.s], .agg #[.int .i64 b.k, .int .i64 b.n, .string b.s]] w fun e w' => e = .returned (.tuple #[.agg #[.int .i64 x.v.k, .int .i64 x.v.n, .string x.v.s], .int .i64 x.e]) ∧ Below w.heap.size w w' := by
  subst hb
  exact binary_any op a b w hx hy hl
theorem lit_un (op : Int) (a : Val) (x : Ans) (hb : unV op a = x) (hx : inR a.n) (w : World) :
    Calls Try.prog 12 #[.int .i64 op, .agg #[.int .i64 a.k, .int .i64 a.n, .string a.s]] w fun e w' => e = .returned (.tuple #[.agg #[.int .i64 x.v.k, .int .i64 x.v.n, .string x.v.s], .int .i64 x.e]) ∧ Below w.heap.size w w' := by
  subst hb
  exact unary_any op a w hx


set_option maxRecDepth 100000 in
set_option maxHeartbeats 4000000 in
theorem turns_early (k1 n1 k2 n2 : Int) (s1 s2 : ByteArray) (w : World) (h : (rightV ⟨k1, n1, s1⟩ && rightV ⟨k2, n2, s2⟩) = false) :
    Calls Try.prog 5 #[.agg #[.int .i64 k1, .int .i64 n1, .string s1], .agg #[.int .i64 k2, .int .i64 n2, .string s2]] w fun e w' => e = .returned (.bool true) ∧ Below w.heap.size w w' := by
  have RR := fun w => right2 k1 n1 k2 n2 s1 s2 w
  rw [h] at RR
  have B := Below.refl w.heap.size w
  go_enter Try.func5, Try.ntmps5
  go_wp2_with (first | (go_at_call 21; with_reducible refine (works_any _).mono ?_; rintro e wn ⟨rfl, bn⟩; (with_reducible first | replace B := B.trans (bn.mono B.size) | replace B := B.drew.trans (bn.mono B.drew.size) | replace B := B.trans ((below_new bn).mono B.size) | replace B := B.trans ((below_newd bn).mono B.size) | replace B := B.trans ((below_new2 bn).mono B.size) | replace B := below_two B B.size bn | replace B := (B.drew.alloc B.drew.size _).trans (bn.mono (B.drew.alloc B.drew.size _).size)); have A := ((Box.new w k1 n1 s1 23).alloc (.cells #[.int .i64 k2, .int .i64 n2, .string s2] 23)).below bn; have E := (Box.at (b := w.heap.size + 1) (w := w.alloc (.cells #[.int .i64 k1, .int .i64 n1, .string s1] 23)) (by simp) k2 n2 s2 23).below bn; obtain ⟨a0, a1, a2, al⟩ := A.get; obtain ⟨d0, d1, d2, dl⟩ := E.get) | (go_at_call 9; with_reducible refine (RR _).mono ?_; rintro e wn ⟨rfl, bn⟩; (with_reducible first | replace B := B.trans (bn.mono B.size) | replace B := B.drew.trans (bn.mono B.drew.size) | replace B := B.trans ((below_new bn).mono B.size) | replace B := B.trans ((below_newd bn).mono B.size) | replace B := B.trans ((below_new2 bn).mono B.size) | replace B := below_two B B.size bn | replace B := (B.drew.alloc B.drew.size _).trans (bn.mono (B.drew.alloc B.drew.size _).size)); (with_reducible first | replace A := A.below bn | replace A := A.drew.below bn | replace A := (A.alloc _).below bn | replace A := (A.alloc _).drew.below bn | replace A := (A.drew.alloc _).below bn | replace A := ((A.alloc _).alloc _).below bn); (with_reducible first | replace E := E.below bn | replace E := E.drew.below bn | replace E := (E.alloc _).below bn | replace E := (E.alloc _).drew.below bn | replace E := (E.drew.alloc _).below bn | replace E := ((E.alloc _).alloc _).below bn)) | fail)
  go_ret
  exact ⟨rfl, B⟩


set_option maxRecDepth 100000 in
set_option maxHeartbeats 16000000 in
theorem turns_main (k1 n1 k2 n2 : Int) (s1 s2 : ByteArray) (w : World) (hr : (rightV ⟨k1, n1, s1⟩ && rightV ⟨k2, n2, s2⟩) = true) (hx : inR n1) (hy : inR n2) (hl : s1.size + s2.size ≤ maxLen) :
    Calls Try.prog 5 #[.agg #[.int .i64 k1, .int .i64 n1, .string s1], .agg #[.int .i64 k2, .int .i64 n2, .string s2]] w fun e w' => e = .returned (.bool true) ∧ Below w.heap.size w w' := by
  have RR := fun w => right2 k1 n1 k2 n2 s1 s2 w
  rw [hr] at RR
  have B := Below.refl w.heap.size w
  have TP : Hid _ := turn_pair k1 n1 k2 n2 s1 s2 hx hy hl
  obtain ⟨r1, r2⟩ := Bool.and_eq_true_iff.1 hr
  have DM : Hid ((binV 4 ⟨k1, n1, s1⟩ ⟨k2, n2, s2⟩).e = 0 → (unV 2 (binV 4 ⟨k1, n1, s1⟩ ⟨k2, n2, s2⟩).v).e = 0 ∧ (unV 2 ⟨k1, n1, s1⟩).e = 0 ∧ (unV 2 ⟨k2, n2, s2⟩).e = 0 ∧
      ∀ w, Calls Try.prog 10 #[.int .i64 3, .agg #[.int .i64 (unV 2 ⟨k1, n1, s1⟩).v.k, .int .i64 (unV 2 ⟨k1, n1, s1⟩).v.n, .string (unV 2 ⟨k1, n1, s1⟩).v.s], .agg #[.int .i64 (unV 2 ⟨k2, n2, s2⟩).v.k, .int .i64 (unV 2 ⟨k2, n2, s2⟩).v.n, .string (unV 2 ⟨k2, n2, s2⟩).v.s]] w
        fun e w' => e = .returned (.tuple #[.agg #[.int .i64 (unV 2 (binV 4 ⟨k1, n1, s1⟩ ⟨k2, n2, s2⟩).v).v.k, .int .i64 (unV 2 (binV 4 ⟨k1, n1, s1⟩ ⟨k2, n2, s2⟩).v).v.n, .string (unV 2 (binV 4 ⟨k1, n1, s1⟩ ⟨k2, n2, s2⟩).v).v.s], .int .i64 0]) ∧ Below w.heap.size w w') := fun h => by
    obtain ⟨q, na, nb, e1, e2, e3, e4, i1, i2, i3⟩ := de_morgan ⟨k1, n1, s1⟩ ⟨k2, n2, s2⟩ r1 r2 h
    rw [e1, e2, e3]
    exact ⟨rfl, rfl, rfl, fun w => lit_bin 3 na nb ⟨q, 0⟩ e4 i1 i2 i3 w⟩
  have C7 := fun w => lit_bin 7 ⟨k1, n1, s1⟩ ⟨k2, n2, s2⟩ _ rfl hx hy hl w
  have C9 := fun w => lit_bin 9 ⟨k2, n2, s2⟩ ⟨k1, n1, s1⟩ _ (bin_less _ _).symm hy hx (by rw [Nat.add_comm]; exact hl) w
  have C4 := fun w => lit_bin 4 ⟨k1, n1, s1⟩ ⟨k2, n2, s2⟩ _ rfl hx hy hl w
  have U1 := fun w => lit_un 2 (binV 4 ⟨k1, n1, s1⟩ ⟨k2, n2, s2⟩).v _ rfl (and_inR _ _) w
  have U2 := fun w => lit_un 2 ⟨k1, n1, s1⟩ _ rfl hx w
  have U3 := fun w => lit_un 2 ⟨k2, n2, s2⟩ _ rfl hy w
  generalize binV 7 ⟨k1, n1, s1⟩ ⟨k2, n2, s2⟩ = L at *
  generalize binV 4 ⟨k1, n1, s1⟩ ⟨k2, n2, s2⟩ = P at *
  generalize unV 2 P.v = Q at *
  generalize unV 2 ⟨k1, n1, s1⟩ = NA at *
  generalize unV 2 ⟨k2, n2, s2⟩ = NB at *
  obtain ⟨⟨lk, ln, ls⟩, le⟩ := L
  obtain ⟨⟨pk, pn, ps⟩, pe⟩ := P
  obtain ⟨⟨qk, qn, qs⟩, qe⟩ := Q
  obtain ⟨⟨ak, an, as'⟩, ae⟩ := NA
  obtain ⟨⟨bk, bn', bs⟩, be⟩ := NB
  simp only [] at DM C7 C9 C4 U1 U2 U3
  clear hr r1 r2 hx hy hl
  have he := run_eqv
  have hne := run_neqv
  go_enter Try.func5, Try.ntmps5
  go_wp2_with (first | (go_at_call 21; with_reducible refine (works_any _).mono ?_; rintro e wn ⟨rfl, bn⟩; (with_reducible first | replace B := B.trans (bn.mono B.size) | replace B := B.drew.trans (bn.mono B.drew.size) | replace B := B.trans ((below_new bn).mono B.size) | replace B := B.trans ((below_newd bn).mono B.size) | replace B := B.trans ((below_new2 bn).mono B.size) | replace B := below_two B B.size bn | replace B := (B.drew.alloc B.drew.size _).trans (bn.mono (B.drew.alloc B.drew.size _).size)); have A := ((Box.new w k1 n1 s1 23).alloc (.cells #[.int .i64 k2, .int .i64 n2, .string s2] 23)).below bn; have E := (Box.at (b := w.heap.size + 1) (w := w.alloc (.cells #[.int .i64 k1, .int .i64 n1, .string s1] 23)) (by simp) k2 n2 s2 23).below bn; obtain ⟨a0, a1, a2, al⟩ := A.get; obtain ⟨d0, d1, d2, dl⟩ := E.get) | (go_at_call 9; with_reducible refine (RR _).mono ?_; rintro e wn ⟨rfl, bn⟩; (with_reducible first | replace B := B.trans (bn.mono B.size) | replace B := B.drew.trans (bn.mono B.drew.size) | replace B := B.trans ((below_new bn).mono B.size) | replace B := B.trans ((below_newd bn).mono B.size) | replace B := B.trans ((below_new2 bn).mono B.size) | replace B := below_two B B.size bn | replace B := (B.drew.alloc B.drew.size _).trans (bn.mono (B.drew.alloc B.drew.size _).size)); (with_reducible first | replace A := A.below bn | replace A := A.drew.below bn | replace A := (A.alloc _).below bn | replace A := (A.alloc _).drew.below bn | replace A := (A.drew.alloc _).below bn | replace A := ((A.alloc _).alloc _).below bn); (with_reducible first | replace E := E.below bn | replace E := E.drew.below bn | replace E := (E.alloc _).below bn | replace E := (E.alloc _).drew.below bn | replace E := (E.drew.alloc _).below bn | replace E := ((E.alloc _).alloc _).below bn)) | fail)
  have O := ops_new wn 3
  replace A := A.alloc (.cells #[.int .i64 4, .int .i64 3, .int .i64 5, .int .i64 6, .int .i64 11, .int .i64 13] 3)
  replace E := E.alloc (.cells #[.int .i64 4, .int .i64 3, .int .i64 5, .int .i64 6, .int .i64 11, .int .i64 13] 3)
  replace B : Below w.heap.size w (wn.alloc (.cells #[.int .i64 4, .int .i64 3, .int .i64 5, .int .i64 6, .int .i64 11, .int .i64 13] 3)) := B.alloc B.size _
  generalize wn.alloc (.cells #[.int .i64 4, .int .i64 3, .int .i64 5, .int .i64 6, .int .i64 11, .int .i64 13] 3) = W0 at *
  generalize wn.heap.size = lb at *
  clear bn RR a0 a1 a2 al d0 d1 d2 dl
  go_loopw [6] (fun i wr => ∃ k : Nat, k ≤ 6 ∧ i = .int .i64 k ∧ TH wr w.heap.size (w.heap.size + 1) ⟨k1, n1, s1⟩ ⟨k2, n2, s2⟩ lb ∧ Below w.heap.size w wr) (fun i _ => 6 - (intOf i).toNat)
  case atStart => exact ⟨0, Nat.zero_le _, rfl, ⟨A, E, O⟩, B⟩
  case round =>
  clear A E O B
  obtain ⟨k, hk6, rfl, H, B⟩ := hrel
  by_cases hk : k < 6
  · clear DM C7 C9 C4 U1 U2 U3
    obtain ⟨xk, xn, xs, xe, C1, C2⟩ := TP.out k hk
    clear TP hk6
    have hki : (k : Int) < 6 := by omega
    have hk0 : (0 : Int) ≤ k := by omega
    generalize hop : turnOp k = op at C1 C2
    go_upto_region 9 with fail
    go_cut [7, 8] from 37 to 46 (fun s7 s8 wx => ∃ bp : Nat, s7 = .pointer (some ⟨bp, 0, none⟩) ∧ s8 = .int .i64 xe ∧ Box wx bp ⟨xk, xn, xs⟩ ∧ TH wx w.heap.size (w.heap.size + 1) ⟨k1, n1, s1⟩ ⟨k2, n2, s2⟩ lb ∧ Below w.heap.size w wx)
    case first =>
      go_region_held3 (fun w' => w'.cell? ⟨lb, k, none⟩ = some (.int .i64 op) ∧ w'.cell? ⟨w.heap.size, 0, none⟩ = some (.int .i64 k1) ∧ w'.cell? ⟨w.heap.size, 1, none⟩ = some (.int .i64 n1) ∧ w'.cell? ⟨w.heap.size, 2, none⟩ = some (.string s1) ∧ w'.cell? ⟨w.heap.size + 1, 0, none⟩ = some (.int .i64 k2) ∧ w'.cell? ⟨w.heap.size + 1, 1, none⟩ = some (.int .i64 n2) ∧ w'.cell? ⟨w.heap.size + 1, 2, none⟩ = some (.string s2)) (with_reducible first | exact hop ▸ H.seven hk | exact hop ▸ H.drew.seven hk | exact hop ▸ (H.alloc _).seven hk | exact hop ▸ (H.drew.alloc _).seven hk | exact hop ▸ (H.alloc _).drew.seven hk | exact hop ▸ (H.put3 zl _ _ _).seven hk) (first | (go_at_call 10; with_reducible refine (C1 _).mono ?_; rintro e wn ⟨rfl, bn⟩; (with_reducible first | (have Z := (Box.new _ 0 0 ⟨#[]⟩ 23).below bn; have zs := B.size; have zl := H.lt) | (have Z := (Box.new _ 0 0 ⟨#[]⟩ 23).drew.below bn; have zs := B.size; have zl := H.lt) | skip); (first | (obtain ⟨z0, z1, z2, zf0, zf1, zf2⟩ := Z.out) | skip); (with_reducible first | replace B := B.trans (bn.mono B.size) | replace B := B.drew.trans (bn.mono B.drew.size) | replace B := B.trans ((below_new bn).mono B.size) | replace B := B.trans ((below_newd bn).mono B.size) | replace B := B.trans ((below_new2 bn).mono B.size) | replace B := below_two B B.size bn | replace B := (B.drew.alloc B.drew.size _).trans (bn.mono (B.drew.alloc B.drew.size _).size)); (with_reducible first | replace H := H.below bn | replace H := H.drew.below bn | replace H := (H.alloc _).below bn | replace H := (H.alloc _).drew.below bn | replace H := (H.drew.alloc _).below bn | replace H := ((H.alloc _).alloc _).below bn)))
      all_goals
        go_wp2_with fail
        go_meet
        case rel =>
          first
            | exact ⟨_, rfl, rfl, Box.new _ xk xn xs 23, H.alloc _, B.alloc B.size _⟩
            | exact ⟨_, rfl, rfl, Z.put xk xn xs, H.put3 zl _ _ _, below_put3 B zs _ _ _⟩
    case rest =>
    clear H B C1
    obtain ⟨xb, rfl, rfl, X, H, B⟩ := hcut
    go_upto_region 10 with fail
    go_cut [9, 10] from 47 to 56 (fun s7 s8 wx => ∃ bp : Nat, s7 = .pointer (some ⟨bp, 0, none⟩) ∧ s8 = .int .i64 xe ∧ Box wx bp ⟨xk, xn, xs⟩ ∧ Box wx xb ⟨xk, xn, xs⟩ ∧ TH wx w.heap.size (w.heap.size + 1) ⟨k1, n1, s1⟩ ⟨k2, n2, s2⟩ lb ∧ Below w.heap.size w wx)
    case first =>
      go_region_held3 (fun w' => w'.cell? ⟨lb, k, none⟩ = some (.int .i64 op) ∧ w'.cell? ⟨w.heap.size, 0, none⟩ = some (.int .i64 k1) ∧ w'.cell? ⟨w.heap.size, 1, none⟩ = some (.int .i64 n1) ∧ w'.cell? ⟨w.heap.size, 2, none⟩ = some (.string s1) ∧ w'.cell? ⟨w.heap.size + 1, 0, none⟩ = some (.int .i64 k2) ∧ w'.cell? ⟨w.heap.size + 1, 1, none⟩ = some (.int .i64 n2) ∧ w'.cell? ⟨w.heap.size + 1, 2, none⟩ = some (.string s2)) (with_reducible first | exact hop ▸ H.seven hk | exact hop ▸ H.drew.seven hk | exact hop ▸ (H.alloc _).seven hk | exact hop ▸ (H.drew.alloc _).seven hk | exact hop ▸ (H.alloc _).drew.seven hk | exact hop ▸ (H.put3 zl _ _ _).seven hk) (first | (go_at_call 10; with_reducible refine (C2 _).mono ?_; rintro e wn ⟨rfl, bn⟩; (with_reducible first | (have Z := (Box.new _ 0 0 ⟨#[]⟩ 23).below bn; have zs := B.size; have zl := H.lt; have zlX := X.get.2.2.2) | (have Z := (Box.new _ 0 0 ⟨#[]⟩ 23).drew.below bn; have zs := B.size; have zl := H.lt; have zlX := X.get.2.2.2) | skip); (first | (obtain ⟨z0, z1, z2, zf0, zf1, zf2⟩ := Z.out) | skip); (with_reducible first | replace B := B.trans (bn.mono B.size) | replace B := B.drew.trans (bn.mono B.drew.size) | replace B := B.trans ((below_new bn).mono B.size) | replace B := B.trans ((below_newd bn).mono B.size) | replace B := B.trans ((below_new2 bn).mono B.size) | replace B := below_two B B.size bn | replace B := (B.drew.alloc B.drew.size _).trans (bn.mono (B.drew.alloc B.drew.size _).size)); (with_reducible first | replace H := H.below bn | replace H := H.drew.below bn | replace H := (H.alloc _).below bn | replace H := (H.alloc _).drew.below bn | replace H := (H.drew.alloc _).below bn | replace H := ((H.alloc _).alloc _).below bn); (with_reducible first | replace X := X.below bn | replace X := X.drew.below bn | replace X := (X.alloc _).below bn | replace X := (X.alloc _).drew.below bn | replace X := (X.drew.alloc _).below bn | replace X := ((X.alloc _).alloc _).below bn)))
      all_goals
        go_wp2_with fail
        go_meet
        case rel =>
          first
            | exact ⟨_, rfl, rfl, Box.new _ xk xn xs 23, X.alloc _, H.alloc _, B.alloc B.size _⟩
            | exact ⟨_, rfl, rfl, Z.put xk xn xs, X.put3 (ne_lo zlX) _ _ _, H.put3 zl _ _ _, below_put3 B zs _ _ _⟩
    case rest =>
    clear H B C2 X
    obtain ⟨yb, rfl, rfl, Y, X, H, B⟩ := hcut
    obtain ⟨x0, x1, x2, xl⟩ := X.get
    obtain ⟨y0, y1, y2, yl⟩ := Y.get
    have q0 := eqv_same xk xn xs
    have q1 : (xe != xe) = false := by simp
    clear hop
    go_wp2
    go_roundw
    case rel => exact ⟨k + 1, by omega, by go_num, H, B⟩
    case measure => simp [intOf]; omega
  · obtain rfl : k = 6 := by omega
    clear hk hk6 TP
    obtain ⟨a0, a1, a2, al, d0, d1, d2, dl⟩ := H.get
    go_upto_region 14 with (first | (go_at_call 10; with_reducible refine (C7 _).mono ?_; rintro e wn ⟨rfl, bn⟩; (with_reducible first | replace B := B.trans (bn.mono B.size) | replace B := B.drew.trans (bn.mono B.drew.size) | replace B := B.trans ((below_new bn).mono B.size) | replace B := B.trans ((below_newd bn).mono B.size) | replace B := B.trans ((below_new2 bn).mono B.size) | replace B := below_two B B.size bn | replace B := (B.drew.alloc B.drew.size _).trans (bn.mono (B.drew.alloc B.drew.size _).size)); (with_reducible first | replace H := H.below bn | replace H := H.drew.below bn | replace H := (H.alloc _).below bn | replace H := (H.alloc _).drew.below bn | replace H := (H.drew.alloc _).below bn | replace H := ((H.alloc _).alloc _).below bn)) | fail)
    have X := Box.new wn lk ln ls 23
    replace H := H.alloc (.cells #[.int .i64 lk, .int .i64 ln, .string ls] 23)
    replace B : Below w.heap.size w (wn.alloc (.cells #[.int .i64 lk, .int .i64 ln, .string ls] 23)) := B.alloc B.size _
    generalize wn.alloc (.cells #[.int .i64 lk, .int .i64 ln, .string ls] 23) = W1 at *
    generalize wn.heap.size = xb at *
    clear bn
    clear a0 a1 a2 al d0 d1 d2 dl
    obtain ⟨a0, a1, a2, al, d0, d1, d2, dl⟩ := H.get
    go_upto_region 15 with (first | (go_at_call 10; with_reducible refine (C9 _).mono ?_; rintro e wn ⟨rfl, bn⟩; (with_reducible first | replace B := B.trans (bn.mono B.size) | replace B := B.drew.trans (bn.mono B.drew.size) | replace B := B.trans ((below_new bn).mono B.size) | replace B := B.trans ((below_newd bn).mono B.size) | replace B := B.trans ((below_new2 bn).mono B.size) | replace B := below_two B B.size bn | replace B := (B.drew.alloc B.drew.size _).trans (bn.mono (B.drew.alloc B.drew.size _).size)); (with_reducible first | replace H := H.below bn | replace H := H.drew.below bn | replace H := (H.alloc _).below bn | replace H := (H.alloc _).drew.below bn | replace H := (H.drew.alloc _).below bn | replace H := ((H.alloc _).alloc _).below bn); (with_reducible first | replace X := X.below bn | replace X := X.drew.below bn | replace X := (X.alloc _).below bn | replace X := (X.alloc _).drew.below bn | replace X := (X.drew.alloc _).below bn | replace X := ((X.alloc _).alloc _).below bn)) | fail)
    have Y := Box.new wn lk ln ls 23
    replace H := H.alloc (.cells #[.int .i64 lk, .int .i64 ln, .string ls] 23)
    replace X := X.alloc (.cells #[.int .i64 lk, .int .i64 ln, .string ls] 23)
    replace B : Below w.heap.size w (wn.alloc (.cells #[.int .i64 lk, .int .i64 ln, .string ls] 23)) := B.alloc B.size _
    generalize wn.alloc (.cells #[.int .i64 lk, .int .i64 ln, .string ls] 23) = W2 at *
    generalize wn.heap.size = yb at *
    clear bn
    clear a0 a1 a2 al d0 d1 d2 dl
    obtain ⟨a0, a1, a2, al, d0, d1, d2, dl⟩ := H.get
    obtain ⟨x0, x1, x2, xl⟩ := X.get
    obtain ⟨y0, y1, y2, yl⟩ := Y.get
    have q0 := eqv_same lk ln ls
    have q1 : (le != le) = false := by simp
    go_upto_region 17 with fail
    clear x0 x1 x2 xl y0 y1 y2 yl X Y q0 q1 C7 C9
    go_upto_region 18 with (first | (go_at_call 10; with_reducible refine (C4 _).mono ?_; rintro e wn ⟨rfl, bn⟩; (with_reducible first | replace B := B.trans (bn.mono B.size) | replace B := B.drew.trans (bn.mono B.drew.size) | replace B := B.trans ((below_new bn).mono B.size) | replace B := B.trans ((below_newd bn).mono B.size) | replace B := B.trans ((below_new2 bn).mono B.size) | replace B := below_two B B.size bn | replace B := (B.drew.alloc B.drew.size _).trans (bn.mono (B.drew.alloc B.drew.size _).size)); (with_reducible first | replace H := H.below bn | replace H := H.drew.below bn | replace H := (H.alloc _).below bn | replace H := (H.alloc _).drew.below bn | replace H := (H.drew.alloc _).below bn | replace H := ((H.alloc _).alloc _).below bn)) | fail)
    have P := Box.new wn pk pn ps 23
    replace H := H.alloc (.cells #[.int .i64 pk, .int .i64 pn, .string ps] 23)
    replace B : Below w.heap.size w (wn.alloc (.cells #[.int .i64 pk, .int .i64 pn, .string ps] 23)) := B.alloc B.size _
    generalize wn.alloc (.cells #[.int .i64 pk, .int .i64 pn, .string ps] 23) = W3 at *
    generalize wn.heap.size = pb at *
    clear bn
    clear a0 a1 a2 al d0 d1 d2 dl
    obtain ⟨a0, a1, a2, al, d0, d1, d2, dl⟩ := H.get
    obtain ⟨p0, p1, p2, pl⟩ := P.get
    go_upto_region 19 with (first | (go_at_call 12; with_reducible refine (U1 _).mono ?_; rintro e wn ⟨rfl, bn⟩; (with_reducible first | replace B := B.trans (bn.mono B.size) | replace B := B.drew.trans (bn.mono B.drew.size) | replace B := B.trans ((below_new bn).mono B.size) | replace B := B.trans ((below_newd bn).mono B.size) | replace B := B.trans ((below_new2 bn).mono B.size) | replace B := below_two B B.size bn | replace B := (B.drew.alloc B.drew.size _).trans (bn.mono (B.drew.alloc B.drew.size _).size)); (with_reducible first | replace H := H.below bn | replace H := H.drew.below bn | replace H := (H.alloc _).below bn | replace H := (H.alloc _).drew.below bn | replace H := (H.drew.alloc _).below bn | replace H := ((H.alloc _).alloc _).below bn)) | fail)
    clear p0 p1 p2 pl P
    have Q := Box.new wn qk qn qs 23
    replace H := H.alloc (.cells #[.int .i64 qk, .int .i64 qn, .string qs] 23)
    replace B : Below w.heap.size w (wn.alloc (.cells #[.int .i64 qk, .int .i64 qn, .string qs] 23)) := B.alloc B.size _
    generalize wn.alloc (.cells #[.int .i64 qk, .int .i64 qn, .string qs] 23) = W4 at *
    generalize wn.heap.size = qb at *
    clear bn
    clear a0 a1 a2 al d0 d1 d2 dl
    obtain ⟨a0, a1, a2, al, d0, d1, d2, dl⟩ := H.get
    go_upto_region 20 with (first | (go_at_call 12; with_reducible refine (U2 _).mono ?_; rintro e wn ⟨rfl, bn⟩; (with_reducible first | replace B := B.trans (bn.mono B.size) | replace B := B.drew.trans (bn.mono B.drew.size) | replace B := B.trans ((below_new bn).mono B.size) | replace B := B.trans ((below_newd bn).mono B.size) | replace B := B.trans ((below_new2 bn).mono B.size) | replace B := below_two B B.size bn | replace B := (B.drew.alloc B.drew.size _).trans (bn.mono (B.drew.alloc B.drew.size _).size)); (with_reducible first | replace H := H.below bn | replace H := H.drew.below bn | replace H := (H.alloc _).below bn | replace H := (H.alloc _).drew.below bn | replace H := (H.drew.alloc _).below bn | replace H := ((H.alloc _).alloc _).below bn); (with_reducible first | replace Q := Q.below bn | replace Q := Q.drew.below bn | replace Q := (Q.alloc _).below bn | replace Q := (Q.alloc _).drew.below bn | replace Q := (Q.drew.alloc _).below bn | replace Q := ((Q.alloc _).alloc _).below bn)) | fail)
    have M := Box.new wn ak an as' 23
    replace H := H.alloc (.cells #[.int .i64 ak, .int .i64 an, .string as'] 23)
    replace Q := Q.alloc (.cells #[.int .i64 ak, .int .i64 an, .string as'] 23)
    replace B : Below w.heap.size w (wn.alloc (.cells #[.int .i64 ak, .int .i64 an, .string as'] 23)) := B.alloc B.size _
    generalize wn.alloc (.cells #[.int .i64 ak, .int .i64 an, .string as'] 23) = W5 at *
    generalize wn.heap.size = mb at *
    clear bn
    clear a0 a1 a2 al d0 d1 d2 dl
    obtain ⟨a0, a1, a2, al, d0, d1, d2, dl⟩ := H.get
    go_upto_region 21 with (first | (go_at_call 12; with_reducible refine (U3 _).mono ?_; rintro e wn ⟨rfl, bn⟩; (with_reducible first | replace B := B.trans (bn.mono B.size) | replace B := B.drew.trans (bn.mono B.drew.size) | replace B := B.trans ((below_new bn).mono B.size) | replace B := B.trans ((below_newd bn).mono B.size) | replace B := B.trans ((below_new2 bn).mono B.size) | replace B := below_two B B.size bn | replace B := (B.drew.alloc B.drew.size _).trans (bn.mono (B.drew.alloc B.drew.size _).size)); (with_reducible first | replace H := H.below bn | replace H := H.drew.below bn | replace H := (H.alloc _).below bn | replace H := (H.alloc _).drew.below bn | replace H := (H.drew.alloc _).below bn | replace H := ((H.alloc _).alloc _).below bn); (with_reducible first | replace Q := Q.below bn | replace Q := Q.drew.below bn | replace Q := (Q.alloc _).below bn | replace Q := (Q.alloc _).drew.below bn | replace Q := (Q.drew.alloc _).below bn | replace Q := ((Q.alloc _).alloc _).below bn); (with_reducible first | replace M := M.below bn | replace M := M.drew.below bn | replace M := (M.alloc _).below bn | replace M := (M.alloc _).drew.below bn | replace M := (M.drew.alloc _).below bn | replace M := ((M.alloc _).alloc _).below bn)) | fail)
    have N := Box.new wn bk bn' bs 23
    replace H := H.alloc (.cells #[.int .i64 bk, .int .i64 bn', .string bs] 23)
    replace Q := Q.alloc (.cells #[.int .i64 bk, .int .i64 bn', .string bs] 23)
    replace M := M.alloc (.cells #[.int .i64 bk, .int .i64 bn', .string bs] 23)
    replace B : Below w.heap.size w (wn.alloc (.cells #[.int .i64 bk, .int .i64 bn', .string bs] 23)) := B.alloc B.size _
    generalize wn.alloc (.cells #[.int .i64 bk, .int .i64 bn', .string bs] 23) = W6 at *
    generalize wn.heap.size = nb at *
    clear bn
    clear a0 a1 a2 al d0 d1 d2 dl H C4 U1 U2 U3
    by_cases hp : pe = 0
    · obtain ⟨rfl, rfl, rfl, C3⟩ := DM.out hp
      subst hp
      clear DM
      obtain ⟨m0, m1, m2, ml⟩ := M.get
      obtain ⟨n0, n1, n2, nl⟩ := N.get
      go_upto_region 24 with (first | (go_at_call 10; with_reducible refine (C3 _).mono ?_; rintro e wn ⟨rfl, bn⟩; (with_reducible first | replace B := B.trans (bn.mono B.size) | replace B := B.drew.trans (bn.mono B.drew.size) | replace B := B.trans ((below_new bn).mono B.size) | replace B := B.trans ((below_newd bn).mono B.size) | replace B := B.trans ((below_new2 bn).mono B.size) | replace B := below_two B B.size bn | replace B := (B.drew.alloc B.drew.size _).trans (bn.mono (B.drew.alloc B.drew.size _).size)); (with_reducible first | replace Q := Q.below bn | replace Q := Q.drew.below bn | replace Q := (Q.alloc _).below bn | replace Q := (Q.alloc _).drew.below bn | replace Q := (Q.drew.alloc _).below bn | replace Q := ((Q.alloc _).alloc _).below bn)) | fail)
      have R := Box.new wn qk qn qs 23
      replace Q := Q.alloc (.cells #[.int .i64 qk, .int .i64 qn, .string qs] 23)
      replace B : Below w.heap.size w (wn.alloc (.cells #[.int .i64 qk, .int .i64 qn, .string qs] 23)) := B.alloc B.size _
      generalize wn.alloc (.cells #[.int .i64 qk, .int .i64 qn, .string qs] 23) = W7 at *
      generalize wn.heap.size = rb at *
      clear bn m0 m1 m2 ml n0 n1 n2 nl M N C3
      obtain ⟨x0, x1, x2, xl⟩ := Q.get
      obtain ⟨y0, y1, y2, yl⟩ := R.get
      have q0 := eqv_same qk qn qs
      go_wp2
      go_ret
      exact ⟨ret_bool (by simp), B⟩
    · have p1 : (pe != 0) = true := bne_iff_ne.2 hp
      clear hp DM
      go_wp2
      go_ret
      exact ⟨rfl, B⟩

theorem turns_walk (a b : Val) (w : World) (hx : inR a.n) (hy : inR b.n) (hl : a.s.size + b.s.size ≤ maxLen) :
    Calls Try.prog 5 #[a.v, b.v] w fun e w' => e = .returned (.bool true) ∧ Below w.heap.size w w' := by
  cases hr : (rightV a && rightV b)
  · exact turns_early a.k a.n b.k b.n a.s b.s w hr
  · exact turns_main a.k a.n b.k b.n a.s b.s w hr hx hy hl
end Go.Proofs.Ytonikoijelhojaa
