/- What made of package eval makes of an expression's operands, if worth does what it must. Conditions: the tables lie in memory; the values are right and within the reach. What worth of package eval answers of any expression, and Eval. Conditions: the tables lie in memory; the values are right and within the reach. What Eval of package eval answers. Conditions: the tables lie in memory; the values are right and within the reach. -/
import Derived.Test.YtblkhlhhlalbkaaGreatDoorEL
import Derived.Test.YtblkhlhhlalbkaaGreatDoorXX
import Derived.Test.YtblkhlhhlalbkaaGreatDoorVS
import Derived.OrdersHeld
import Derived.Deep.RegionHeld
import Derived.Deep.RegionHeldLaw
import Derived.Test.YtblkhlhhlalbkaaGreatDoorES
namespace Go.Proofs.YtblkhlhhlalbkaaGreatDoor
open Go.RowKit Go.Lib Go.Sort
set_option linter.unusedVariables false
set_option maxRecDepth 20000
set_option linter.unusedSimpArgs false

/-- What an expression is worked out over, in memory. -/
structure Cv (w : World) (M : Nat) (row : List Val) (pr : Option Addr) (kn : List (Gx × Val)) (pk : Option Addr) : Prop where
  R : Row w pr row
  K : KnR w M pk kn
  T : Tb w
  rl : row.length ≤ 1048576
  rg : ∀ v ∈ row, RtV v
  kg : ∀ q ∈ kn, RtV q.2
theorem Cv.below {w w' : World} {M : Nat} {row : List Val} {pr : Option Addr} {kn : List (Gx × Val)} {pk : Option Addr} (h : Cv w M row pr kn pk) (B : Below w.heap.size w w') : Cv w' M row pr kn pk :=
  ⟨h.R.below B, h.K.below B, h.T.below B, h.rl, h.rg, h.kg⟩
abbrev oV (pr : Option Addr) (nr cr : Nat) (pk : Option Addr) (nk ck : Nat) : Value := .agg #[.slice pr nr cr, .slice pk nk ck]
def WorthOk (M : Nat) (row : List Val) (pr : Option Addr) (cr : Nat) (kn : List (Gx × Val)) (pk : Option Addr) (ck m : Nat) : Prop := ∀ (w : World) (e : Gx) (p : Option Addr) (c : Nat), Cv w M row pr kn pk → GAt w m e p → RtN m e → e.xs.length ≤ c →
  Calls Tryz.prog 23 #[oV pr row.length cr pk kn.length ck, gV e p c] w fun r w' => WE (evN M row kn m e) r ∧ Below w.heap.size w w'
/-- The variables of made. -/
def MB (w : World) (b : Nat) (pr : Option Addr) (nr cr : Nat) (pk : Option Addr) (nk ck : Nat) (e : Gx) (p : Option Addr) (c : Nat) : Prop :=
  w.cell? ⟨b, 0, none⟩ = some (.slice pr nr cr) ∧ w.cell? ⟨b, 1, none⟩ = some (.slice pk nk ck) ∧ BGx w (b + 1) e p c ∧ Box w (b + 2) ⟨0, 0, ⟨#[]⟩⟩
theorem MB.low {w w' : World} {b B : Nat} {pr : Option Addr} {nr cr : Nat} {pk : Option Addr} {nk ck : Nat} {e : Gx} {p : Option Addr} {c : Nat} (h : MB w b pr nr cr pk nk ck e p c) (hb : b + 3 ≤ B) (k : Below B w w') : MB w' b pr nr cr pk nk ck e p c := by
  obtain ⟨h0, h1, h2, h3⟩ := h
  have kb := k.block
  refine ⟨(World.cell?_of_block (w := w) (a := ⟨b, 0, none⟩) (kb b (by omega))).trans h0, (World.cell?_of_block (w := w) (a := ⟨b, 1, none⟩) (kb b (by omega))).trans h1, (kb _ (by omega)).trans h2, ?_⟩
  obtain ⟨c0, c1, c2, f0, f1, f2⟩ := h3
  have q := kb (b + 2) (by omega)
  exact ⟨(World.cell?_of_block (w := w) (a := ⟨b + 2, 0, none⟩) q).trans c0, (World.cell?_of_block (w := w) (a := ⟨b + 2, 1, none⟩) q).trans c1, (World.cell?_of_block (w := w) (a := ⟨b + 2, 2, none⟩) q).trans c2, (World.frozen?_of_block (w := w) (a := ⟨b + 2, 0, none⟩) q).trans f0, (World.frozen?_of_block (w := w) (a := ⟨b + 2, 1, none⟩) q).trans f1, (World.frozen?_of_block (w := w) (a := ⟨b + 2, 2, none⟩) q).trans f2⟩
theorem MB.ov {w : World} {b : Nat} {pr : Option Addr} {nr cr : Nat} {pk : Option Addr} {nk ck : Nat} {e : Gx} {p : Option Addr} {c : Nat} (h : MB w b pr nr cr pk nk ck e p c) : w.cell? ⟨b, 0, none⟩ = some (.slice pr nr cr) ∧ w.cell? ⟨b, 1, none⟩ = some (.slice pk nk ck) := ⟨h.1, h.2.1⟩
theorem MB.ex {w : World} {b : Nat} {pr : Option Addr} {nr cr : Nat} {pk : Option Addr} {nk ck : Nat} {e : Gx} {p : Option Addr} {c : Nat} (h : MB w b pr nr cr pk nk ck e p c) : BGx w (b + 1) e p c := h.2.2.1
theorem MB.bx {w : World} {b : Nat} {pr : Option Addr} {nr cr : Nat} {pk : Option Addr} {nk ck : Nat} {e : Gx} {p : Option Addr} {c : Nat} (h : MB w b pr nr cr pk nk ck e p c) : Box w (b + 2) ⟨0, 0, ⟨#[]⟩⟩ := h.2.2.2
/-- The cells that made's first region reads. -/
def M1 (w : World) (a : Nat) (pr : Option Addr) (nr cr : Nat) (pk : Option Addr) (nk ck : Nat) (b off nx c : Nat) (ex : Gx) (q : Option Addr) (cq : Nat) : Prop := w.cell? ⟨a, 0, none⟩ = some (.slice pr nr cr) ∧ w.cell? ⟨a, 1, none⟩ = some (.slice pk nk ck) ∧ w.cell? ⟨a + 1, 9, none⟩ = some (.slice (some ⟨b, off, none⟩) nx c) ∧ w.cell? ⟨b, off, none⟩ = some (.int .i64 ex.k) ∧ w.cell? ⟨b, off + 1, none⟩ = some (.int .i64 ex.op) ∧ w.cell? ⟨b, off + 2, none⟩ = some (.int .i64 ex.v.k) ∧ w.cell? ⟨b, off + 3, none⟩ = some (.int .i64 ex.v.n) ∧ w.cell? ⟨b, off + 4, none⟩ = some (.string ex.v.s) ∧ w.cell? ⟨b, off + 5, none⟩ = some (.string ⟨ex.t.toArray⟩) ∧ w.cell? ⟨b, off + 6, none⟩ = some (.string ⟨ex.n.toArray⟩) ∧ w.cell? ⟨b, off + 7, none⟩ = some (.int .i64 ex.c) ∧ w.cell? ⟨b, off + 8, none⟩ = some (.int .i64 ex.y) ∧ w.cell? ⟨b, off + 9, none⟩ = some (.slice q ex.xs.length cq)
theorem M1.all {w : World} {a : Nat} {pr : Option Addr} {nr cr : Nat} {pk : Option Addr} {nk ck : Nat} {b off nx c : Nat} {ex : Gx} {q : Option Addr} {cq : Nat} (h : M1 w a pr nr cr pk nk ck b off nx c ex q cq) : w.cell? ⟨a, 0, none⟩ = some (.slice pr nr cr) ∧ w.cell? ⟨a, 1, none⟩ = some (.slice pk nk ck) ∧ w.cell? ⟨a + 1, 9, none⟩ = some (.slice (some ⟨b, off, none⟩) nx c) ∧ w.cell? ⟨b, off, none⟩ = some (.int .i64 ex.k) ∧ w.cell? ⟨b, off + 1, none⟩ = some (.int .i64 ex.op) ∧ w.cell? ⟨b, off + 2, none⟩ = some (.int .i64 ex.v.k) ∧ w.cell? ⟨b, off + 3, none⟩ = some (.int .i64 ex.v.n) ∧ w.cell? ⟨b, off + 4, none⟩ = some (.string ex.v.s) ∧ w.cell? ⟨b, off + 5, none⟩ = some (.string ⟨ex.t.toArray⟩) ∧ w.cell? ⟨b, off + 6, none⟩ = some (.string ⟨ex.n.toArray⟩) ∧ w.cell? ⟨b, off + 7, none⟩ = some (.int .i64 ex.c) ∧ w.cell? ⟨b, off + 8, none⟩ = some (.int .i64 ex.y) ∧ w.cell? ⟨b, off + 9, none⟩ = some (.slice q ex.xs.length cq) := h
theorem M1.below {w w' : World} {a : Nat} {pr : Option Addr} {nr cr : Nat} {pk : Option Addr} {nk ck : Nat} {b off nx c : Nat} {ex : Gx} {q : Option Addr} {cq : Nat} (h : M1 w a pr nr cr pk nk ck b off nx c ex q cq) (k : Below w.heap.size w w') : M1 w' a pr nr cr pk nk ck b off nx c ex q cq := by
  obtain ⟨h0, h1, h2, h3, h4, h5, h6, h7, h8, h9, h10, h11, h12⟩ := h
  exact ⟨below_cell k h0, below_cell k h1, below_cell k h2, below_cell k h3, below_cell k h4, below_cell k h5, below_cell k h6, below_cell k h7, below_cell k h8, below_cell k h9, below_cell k h10, below_cell k h11, below_cell k h12⟩
theorem M1.of {w : World} {a : Nat} {pr : Option Addr} {nr cr : Nat} {pk : Option Addr} {nk ck : Nat} {e : Gx} {b off c : Nat} {ex : Gx} {q : Option Addr} {cq : Nat} (h : MB w a pr nr cr pk nk ck e (some ⟨b, off, none⟩) c) (x : GC w b (off + 0 * 10) ex q cq) : M1 w a pr nr cr pk nk ck b off e.xs.length c ex q cq := by
  obtain ⟨x0, x1, x2, x3, x4, x5, x6, x7, x8, x9⟩ := x
  simp only [Nat.zero_mul, Nat.add_zero] at x0 x1 x2 x3 x4 x5 x6 x7 x8 x9
  exact ⟨h.1, h.2.1, h.ex.cells.2.2.2.2.2.2.2.2.2, x0, x1, x2, x3, x4, x5, x6, x7, x8, x9⟩
/-- The world in which made begins. -/
def MW (w : World) (pr : Option Addr) (nr cr : Nat) (pk : Option Addr) (nk ck : Nat) (e : Gx) (p : Option Addr) (c : Nat) : World := ((w.alloc (.cells #[.slice pr nr cr, .slice pk nk ck] 55)).alloc (.cells #[.int .i64 e.k, .int .i64 e.op, .int .i64 e.v.k, .int .i64 e.v.n, .string e.v.s, .string ⟨e.t.toArray⟩, .string ⟨e.n.toArray⟩, .int .i64 e.c, .int .i64 e.y, .slice p e.xs.length c] 26)).alloc (.cells #[.int .i64 0, .int .i64 0, .string ⟨#[]⟩] 23)
theorem MW.low (w : World) (pr : Option Addr) (nr cr : Nat) (pk : Option Addr) (nk ck : Nat) (e : Gx) (p : Option Addr) (c : Nat) : Below w.heap.size w (MW w pr nr cr pk nk ck e p c) := (((Below.refl _ _).alloc (Nat.le_refl _) _).alloc (by simp) _).alloc (by simp; omega) _
theorem MW.size (w : World) (pr : Option Addr) (nr cr : Nat) (pk : Option Addr) (nk ck : Nat) (e : Gx) (p : Option Addr) (c : Nat) : (MW w pr nr cr pk nk ck e p c).heap.size = w.heap.size + 3 := by simp [MW]
theorem MW.mb (w : World) (pr : Option Addr) (nr cr : Nat) (pk : Option Addr) (nk ck : Nat) (e : Gx) (p : Option Addr) (c : Nat) : MB (MW w pr nr cr pk nk ck e p c) w.heap.size pr nr cr pk nk ck e p c := by
  have h0 := heap_alloc_new w (.cells #[.slice pr nr cr, .slice pk nk ck] 55)
  have b12 := albl2 (w.alloc (.cells #[.slice pr nr cr, .slice pk nk ck] 55)) (.cells #[.int .i64 e.k, .int .i64 e.op, .int .i64 e.v.k, .int .i64 e.v.n, .string e.v.s, .string ⟨e.t.toArray⟩, .string ⟨e.n.toArray⟩, .int .i64 e.c, .int .i64 e.y, .slice p e.xs.length c] 26) (.cells #[.int .i64 0, .int .i64 0, .string ⟨#[]⟩] 23)
  refine ⟨below_cell b12 (by rw [Lib.cell_of_heap h0]; rfl), below_cell b12 (by rw [Lib.cell_of_heap h0]; rfl), ?_, ?_⟩
  · have := BGx.new (w.alloc (.cells #[.slice pr nr cr, .slice pk nk ck] 55)) e p c
    have s : (w.alloc (.cells #[.slice pr nr cr, .slice pk nk ck] 55)).heap.size = w.heap.size + 1 := by simp
    rw [s] at this
    exact this.below (albl' _ _)
  · exact Box.at (by simp) 0 0 ⟨#[]⟩ 23
theorem own_oneV (w : World) (base : Nat) (k n : Int) (s : ByteArray) (hb : base ≤ w.heap.size) : OwnV (w.alloc (.cells #[.int .i64 k, .int .i64 n, .string s] 23)) base (.slice (some ⟨w.heap.size, 0, none⟩) 1 1) [⟨k, n, s⟩] :=
  ⟨by simp [cellsV], .inr ⟨w.heap.size, 1, _, rfl, hb, heap_alloc_new w _, by simp, by unfold maxLen; omega, rfl, by simp [cellsV]⟩⟩
set_option maxHeartbeats 8000000 in
theorem made_bad (M : Nat) (row : List Val) (pr : Option Addr) (cr : Nat) (kn : List (Gx × Val)) (pk : Option Addr) (ck m : Nat) (HW : WorthOk M row pr cr kn pk ck m) (w : World) (e : Gx) (p : Option Addr) (c : Nat) (cv : Cv w M row pr kn pk) (hr : RowG w m p e.xs) (he : RtN (m + 1) e) (h0 : 0 < e.xs.length) (hcap : e.xs.length ≤ c) (hb : (evN M row kn m e.xs[0]).e ≠ 0) :
    Calls Tryz.prog 44 #[oV pr row.length cr pk kn.length ck, gV e p c] w fun r w' => r = .panicked (thrE (evN M row kn m e.xs[0]).e) ∧ Below w.heap.size w w' := by
  have B := MW.low w pr row.length cr pk kn.length ck e p c
  have HM := hid (MW.mb w pr row.length cr pk kn.length ck e p c)
  have hex := he.2 e.xs[0] (List.getElem_mem _)
  obtain ⟨b, off, q, cq, rfl, X, EX, hcq⟩ := hr.cap h0
  have hbl : b < w.heap.size := cell_lt X.1
  have T0 := hid (fun W (k : Below w.heap.size w W) => (HW W e.xs[0] q cq (cv.below k) (EX.below k) hex hcq).mono (fun r w' h => (⟨h.1.resolve_left (fun q => hb q.1), h.2⟩ : ((evN M row kn m e.xs[0]).e ≠ 0 ∧ r = .panicked (thrE (evN M row kn m e.xs[0]).e)) ∧ Below W.heap.size W w')))
  have HB := hid B
  have HS0 := hid (M1.of HM.out (X.below B))
  have hlen := hr.len
  generalize evN M row kn m e.xs[0] = x at *
  clear hcq
  generalize e.xs[0] = ex at *
  have hl0 : (0 : Int) < (e.xs.length : Int) := by omega
  clear X EX hex cv hr he HW B hb
  unfold MW at *
  go_enter Tryz.func44, Tryz.ntmps44
  go_upto_region 1 with fail
  generalize hW : World.alloc _ _ = W at *
  clear hW
  have S0 := HS0.out.all
  have hbW : b < W.heap.size := cell_lt S0.2.2.2.1
  have TW := hid (T0.out W.drew (HB.out.trans ((Below.refl _ _).drew.mono HB.out.size)))
  refine wp_region_held_drew (S := (fun W => W.cell? ⟨w.heap.size, 0, none⟩ = some (.slice pr row.length cr) ∧ W.cell? ⟨w.heap.size, 1, none⟩ = some (.slice pk kn.length ck) ∧ W.cell? ⟨w.heap.size + 1, 9, none⟩ = some (.slice (some ⟨b, off, none⟩) e.xs.length c) ∧ W.cell? ⟨b, off, none⟩ = some (.int .i64 ex.k) ∧ W.cell? ⟨b, off + 1, none⟩ = some (.int .i64 ex.op) ∧ W.cell? ⟨b, off + 2, none⟩ = some (.int .i64 ex.v.k) ∧ W.cell? ⟨b, off + 3, none⟩ = some (.int .i64 ex.v.n) ∧ W.cell? ⟨b, off + 4, none⟩ = some (.string ex.v.s) ∧ W.cell? ⟨b, off + 5, none⟩ = some (.string ⟨ex.t.toArray⟩) ∧ W.cell? ⟨b, off + 6, none⟩ = some (.string ⟨ex.n.toArray⟩) ∧ W.cell? ⟨b, off + 7, none⟩ = some (.int .i64 ex.c) ∧ W.cell? ⟨b, off + 8, none⟩ = some (.int .i64 ex.y) ∧ W.cell? ⟨b, off + 9, none⟩ = some (.slice q ex.xs.length cq))) (by kernel_rfl) S0 (fun hHeld => ?_)
  (refine wpAnyH_take (i := 0) (v := ?_) rfl (by kernel_rfl) (by kernel_rfl) (by kernel_rfl) (fun _ _ _ h => h) (Or.inl ⟨by rfl, ?_⟩) (by assumption) ?_; rotate_left; (intro w hSw; (try dsimp only at hSw); go_simp; try with_reducible rfl); try simp only [Act.put, List.setIfInBounds_toArray, List.set_cons_zero, List.set_cons_succ])
  (refine wpAnyH_take (i := 1) (v := ?_) rfl (by kernel_rfl) (by kernel_rfl) (by kernel_rfl) (fun _ _ _ h => h) (Or.inl ⟨by rfl, ?_⟩) (by assumption) ?_; rotate_left; (intro w hSw; (try dsimp only at hSw); go_simp; try with_reducible rfl); try simp only [Act.put, List.setIfInBounds_toArray, List.set_cons_zero, List.set_cons_succ])
  (refine wpAnyH_take (i := 2) (v := ?_) rfl (by kernel_rfl) (by kernel_rfl) (by kernel_rfl) (fun _ _ _ h => h) (Or.inl ⟨by rfl, ?_⟩) (by assumption) ?_; rotate_left; (intro w hSw; (try dsimp only at hSw); go_simp; try with_reducible rfl); try simp only [Act.put, List.setIfInBounds_toArray, List.set_cons_zero, List.set_cons_succ])
  (refine wpAnyH_take (i := 3) (v := ?_) rfl (by kernel_rfl) (by kernel_rfl) (by kernel_rfl) (fun _ _ _ h => h) (Or.inl ⟨by rfl, ?_⟩) (by assumption) ?_; rotate_left; (intro w hSw; (try dsimp only at hSw); go_simp; try with_reducible rfl); try simp only [Act.put, List.setIfInBounds_toArray, List.set_cons_zero, List.set_cons_succ])
  (refine wpAnyH_take (i := 4) (v := ?_) rfl (by kernel_rfl) (by kernel_rfl) (by kernel_rfl) (fun _ _ _ h => h) (Or.inl ⟨by rfl, ?_⟩) (by assumption) ?_; rotate_left; (intro w hSw; (try dsimp only at hSw); go_simp; try with_reducible rfl); try simp only [Act.put, List.setIfInBounds_toArray, List.set_cons_zero, List.set_cons_succ])
  refine wpAnyH_ready (rs := [5]) (by kernel_rfl) (by simp) ?_
  refine AllReadyH.cons rfl (fun K1 hK1 => ?_) AllReadyH.nil
  go_simp
  go_wp2_with (first | (go_at_call 23; with_reducible refine TW.out.mono ?_; rintro r w5 ⟨⟨_, rfl⟩, b5⟩) | fail)
  exact ⟨rfl, rfl, HB.out.trans ((Below.refl _ _).drew.trans b5 |>.mono HB.out.size)⟩
theorem feB_app : ∀ a b, feB (a ++ b) = if feB a ≠ 0 then feB a else feB b
  | [], b => by simp [feB]
  | x :: r, b => by
    simp only [List.cons_append, feB, feB_app r b]
    by_cases h : x.e = 0
    · simp [h]
    · simp [h]
theorem feB_take {rs : List Ans} {k : Nat} (hk : k < rs.length) (h : feB (rs.take k) = 0) : feB (rs.take (k + 1)) = rs[k].e := by
  rw [List.take_succ_eq_append_getElem hk, feB_app, h]
  simp [feB]
  intro q
  exact q.symm
theorem feB_bad {rs : List Ans} {k : Nat} (hk : k < rs.length) (h : feB (rs.take k) = 0) (hb : rs[k].e ≠ 0) : feB rs = rs[k].e := by
  have h1 := feB_take hk h
  have h2 : feB rs = feB (rs.take (k + 1) ++ rs.drop (k + 1)) := congrArg feB (List.take_append_drop (k + 1) rs).symm
  rw [h2, feB_app, h1, if_pos hb]
theorem bel_drew {W w5 : World} (b : Below W.drew.heap.size W.drew w5) : Below W.heap.size W w5 := (Below.refl _ _).drew.trans b
/-- What the later operands come to. -/
def mdR (k op : Int) (v : Val) (r : List Ans) : Ans := if decB k op v then ⟨v, 0⟩ else if feB r ≠ 0 then ⟨nullV, feB r⟩ else apB k op (v :: r.map (·.v))
set_option maxHeartbeats 16000000 in
theorem made_ok (M : Nat) (row : List Val) (pr : Option Addr) (cr : Nat) (kn : List (Gx × Val)) (pk : Option Addr) (ck m : Nat) (HW : WorthOk M row pr cr kn pk ck m) (w : World) (e : Gx) (p : Option Addr) (c : Nat) (cv : Cv w M row pr kn pk) (hr : RowG w m p e.xs) (he : RtN (m + 1) e) (h0 : 0 < e.xs.length) (hcap : e.xs.length ≤ c) (hb : (evN M row kn m e.xs[0]).e = 0) (hk4 : e.k = 4 → 2 ≤ e.xs.length) :
    Calls Tryz.prog 44 #[oV pr row.length cr pk kn.length ck, gV e p c] w fun r w' => WE (mdR e.k e.op (evN M row kn m e.xs[0]).v (e.xs.tail.map (evN M row kn m))) r ∧ Below w.heap.size w w' := by
  have B := MW.low w pr row.length cr pk kn.length ck e p c
  have HM := hid (MW.mb w pr row.length cr pk kn.length ck e p c)
  have hsz := MW.size w pr row.length cr pk kn.length ck e p c
  have hex := he.2 e.xs[0] (List.getElem_mem _)
  have HRS := hid (fun i (hi : i < e.xs.length) => he.2 e.xs[i] (List.getElem_mem _))
  have HRW := hid hr
  have HCV := hid cv
  have HWW := hid HW
  have HGD := hid (rt_evN (M := M) cv.rg cv.kg m e.xs[0] hex)
  obtain ⟨b, off, q, cq, rfl, X, EX, hcq⟩ := hr.cap h0
  have hbl : b < w.heap.size := cell_lt X.1
  have T0 := hid (fun W (k : Below w.heap.size w W) => (HW W e.xs[0] q cq (cv.below k) (EX.below k) hex hcq).mono (fun r w' h => (⟨h.1.resolve_right (fun q => q.1 hb), h.2⟩ : ((evN M row kn m e.xs[0]).e = 0 ∧ r = .returned (.agg #[.int .i64 (evN M row kn m e.xs[0]).v.k, .int .i64 (evN M row kn m e.xs[0]).v.n, .string (evN M row kn m e.xs[0]).v.s])) ∧ Below W.heap.size W w')))
  have HB := hid B
  have HS0 := hid (M1.of HM.out (X.below B))
  have hlen := hr.len
  generalize hxv : (evN M row kn m e.xs[0]).v = xv at *
  clear hcq
  generalize hxx : e.xs[0] = ex at *
  clear hxv
  have hl0 : (0 : Int) < (e.xs.length : Int) := by omega
  obtain ⟨vk, vn, vs⟩ := xv
  simp only [] at T0
  clear X EX hex cv hr he HW B hb hxx
  unfold MW at *
  go_enter Tryz.func44, Tryz.ntmps44
  go_upto_region 1 with fail
  generalize hW : World.alloc _ _ = W at *
  clear hW
  have hS := HS0.out
  have hbW : b < W.heap.size := cell_lt hS.2.2.2.1
  have TW := hid (T0.out W.drew (HB.out.trans ((Below.refl _ _).drew.mono HB.out.size)))
  have BD : Below W.heap.size W W.drew := (Below.refl _ _).drew
  have HSD := hid (hS.below BD)
  have S0 := hS.all
  go_upto_region 2 with fail
  go_region_held_law (fun W => W.cell? ⟨w.heap.size, 0, none⟩ = some (.slice pr row.length cr) ∧ W.cell? ⟨w.heap.size, 1, none⟩ = some (.slice pk kn.length ck) ∧ W.cell? ⟨w.heap.size + 1, 9, none⟩ = some (.slice (some ⟨b, off, none⟩) e.xs.length c) ∧ W.cell? ⟨b, off, none⟩ = some (.int .i64 ex.k) ∧ W.cell? ⟨b, off + 1, none⟩ = some (.int .i64 ex.op) ∧ W.cell? ⟨b, off + 2, none⟩ = some (.int .i64 ex.v.k) ∧ W.cell? ⟨b, off + 3, none⟩ = some (.int .i64 ex.v.n) ∧ W.cell? ⟨b, off + 4, none⟩ = some (.string ex.v.s) ∧ W.cell? ⟨b, off + 5, none⟩ = some (.string ⟨ex.t.toArray⟩) ∧ W.cell? ⟨b, off + 6, none⟩ = some (.string ⟨ex.n.toArray⟩) ∧ W.cell? ⟨b, off + 7, none⟩ = some (.int .i64 ex.c) ∧ W.cell? ⟨b, off + 8, none⟩ = some (.int .i64 ex.y) ∧ W.cell? ⟨b, off + 9, none⟩ = some (.slice q ex.xs.length cq)) (first | exact S0 | exact HSD.out.all | exact HS5.out.all | exact (HS5.out.below (albl' _ _)).all)
    (first | (go_at_call 23; with_reducible refine TW.out.mono ?_; rintro r w5 ⟨⟨_, rfl⟩, b5⟩; have HB5 := hid (bel_drew b5); have HS5 := hid (HSD.out.below b5); clear b5))
  have hblk : (w5.alloc (.cells #[.int .i64 vk, .int .i64 vn, .string vs] 23)).heap.size = w5.heap.size + 1 := by simp
  have BW5 : Below W.heap.size W (w5.alloc (.cells #[.int .i64 vk, .int .i64 vn, .string vs] 23)) := HB5.out.trans ((albl' _ _).mono HB5.out.size)
  have hw5 := HB5.out.size
  have HO := hid (own_oneV w5 (w.heap.size + 3) vk vn vs (by omega))
  have HV5 := hid (Box.new w5 vk vn vs 23)
  have HM5 := hid (HM.out.low (Nat.le_of_eq hsz.symm) BW5)
  have HB6 := hid (HB.out.trans (BW5.mono HB.out.size))
  have HBW := hid BW5
  have hv5l : w5.heap.size < (w5.alloc (.cells #[.int .i64 vk, .int .i64 vn, .string vs] 23)).heap.size := by omega
  clear HS0 hS hbW TW BD HSD S0 HB5 HS5 BW5 hblk hw5
  generalize hX : w5.alloc (.cells #[.int .i64 vk, .int .i64 vn, .string vs] 23) = X at *
  generalize w5.heap.size = vb at *
  clear hX
  have hXs : w.heap.size + 3 ≤ X.heap.size := by have := HBW.out.size; omega
  obtain ⟨n0, n1, n2, n3, n4, n5, n6, n7, n8, n9⟩ := HM5.out.ex.cells
  obtain ⟨z0, z1, z2, _⟩ := HV5.out
  have g0 := cell_regrown n0
  have g1 := cell_regrown n1
  have g2 := cell_regrown n2
  have g3 := cell_regrown n3
  have g4 := cell_regrown n4
  have g5 := cell_regrown n5
  have g6 := cell_regrown n6
  have g7 := cell_regrown n7
  have g8 := cell_regrown n8
  have g9 := cell_regrown n9
  have y0 := cell_regrown z0
  have y1 := cell_regrown z1
  have y2 := cell_regrown z2
  clear n0 n1 n2 n3 n4 n5 n6 n7 n8 n9 z0 z1 z2
  have C1 : Hid (∀ d os, Calls Tryz.prog 63 #[gV e (some ⟨b, off, none⟩) c, .agg #[.int .i64 vk, .int .i64 vn, .string vs]] (grow (redrawn X d) os) fun r w'' => r = .returned (.bool (decB e.k e.op ⟨vk, vn, vs⟩)) ∧ ∃ p' : Regrown, w'' = grow (redrawn X p'.d) p'.os) :=
    fun d os => Calls.regrown_of (dc_any e (some ⟨b, off, none⟩) c ⟨vk, vn, vs⟩ _ HGD.out)
  have hmd : Hid (∀ r, mdR e.k e.op ⟨vk, vn, vs⟩ r = if decB e.k e.op ⟨vk, vn, vs⟩ then ⟨⟨vk, vn, vs⟩, 0⟩ else if feB r ≠ 0 then ⟨nullV, feB r⟩ else apB e.k e.op (⟨vk, vn, vs⟩ :: r.map (·.v))) := fun r => rfl
  generalize hdd : decB e.k e.op ⟨vk, vn, vs⟩ = dd at *
  go_wp2_with fail
  refine wp_region_quiet_below (by kernel_rfl) (by kernel_rfl) ?_
  repeat (quiet_step (first | (go_at_call 63; with_reducible exact C1.out _ _)))
  refine wpQuiet_nil ?_
  intro _ hw'
  obtain ⟨⟨dq, osq⟩, hw''⟩ := hw'
  subst hw''
  simp only []
  have bX := below_regrown X dq osq
  have HM7 := hid (HM5.out.low hXs bX)
  have HO7 := hid (HO.out.below bX)
  have HV7 := hid (HV5.out.below bX)
  have HB7 := hid (HB6.out.trans (bX.mono HB6.out.size))
  have hX7 : w.heap.size + 3 ≤ (grow (redrawn X dq) osq).heap.size := Nat.le_trans hXs bX.size
  have hv7 : vb < (grow (redrawn X dq) osq).heap.size := Nat.lt_of_lt_of_le hv5l bX.size
  clear g0 g1 g2 g3 g4 g5 g6 g7 g8 g9 y0 y1 y2 C1 HM5 HO HV5 HB6 HBW hXs hv5l bX HM
  generalize grow (redrawn X dq) osq = Y at *
  clear T0
  have q3 : w.heap.size ≤ w.heap.size + 2 := by omega
  cases dd with
  | true =>
    obtain ⟨z0, z1, z2, _⟩ := HV7.out.out
    obtain ⟨r0, r1, r2, f0, f1, f2⟩ := HM7.out.bx.out
    have hbv : w.heap.size + 2 < Y.heap.size := by omega
    go_wp2_with fail
    have R' := HM7.out.bx.put vk vn vs
    have B' := below_put3 HB7.out q3 (.int .i64 vk) (.int .i64 vn) (.string vs)
    clear r0 r1 r2
    obtain ⟨r0, r1, r2, _, _, _⟩ := R'.out
    refine bodyPost_ret (by simp [results, Tryz.results44, go_sem, r0, r1, r2]; try rfl) rfl ?_
    refine ⟨?_, B'⟩
    rw [hmd.out]
    exact Or.inl ⟨rfl, rfl⟩
  | false =>
    obtain ⟨L, hL⟩ : ∃ L : Nat, e.xs.length = L + 1 := ⟨e.xs.length - 1, by omega⟩
    have hL0 : (1 : Int) ≤ (e.xs.length : Int) := by omega
    have hL1 : (e.xs.length : Int) - 1 = (L : Int) := by omega
    have hL2 : ((e.xs.length : Int) - 1).toNat = L := by omega
    obtain ⟨x0, x1, x2, x3, x4, x5, x6, x7, x8, x9⟩ := HM7.out.ex.cells
    have hbe : w.heap.size + 1 < Y.heap.size := by omega
    obtain ⟨rs, hrs⟩ : ∃ rs, rs = e.xs.tail.map (evN M row kn m) := ⟨_, rfl⟩
    have hrl : rs.length = L := by rw [hrs, List.length_map, List.length_tail]; omega
    have hri : ∀ k (h : k < rs.length) (h' : k + 1 < e.xs.length), rs[k] = evN M row kn m e.xs[k + 1] := fun k h h' => by simp [hrs, List.getElem_tail]
    have hLl : L ≤ 1048576 := by omega
    by_cases hc1 : c = 1
    · have HLz : Hid (L = 0) := (show L = 0 by omega)
      subst hc1
      go_upto_region 5 with fail
      go_loopw [29, 5] (fun i v wr => ∃ k : Nat, k ≤ L ∧ i = .int .i64 (k : Int) ∧ Hid (OwnV wr (w.heap.size + 3) v (⟨vk, vn, vs⟩ :: (rs.take k).map (·.v))) ∧ Hid (feB (rs.take k) = 0) ∧ Hid (Below w.heap.size w wr) ∧ Hid (MB wr w.heap.size pr row.length cr pk kn.length ck e (some ⟨b, off, none⟩) 1) ∧ w.heap.size + 3 ≤ wr.heap.size) (fun i _ _ => L - (RowKit.intOf i).toNat)
      case atStart => exact ⟨0, Nat.zero_le _, rfl, HO7.out, rfl, HB7.out, HM7.out, hX7⟩
      case round =>
        obtain ⟨k, hk, rfl, HOk, HFk, HBk, HMk, hsk⟩ := hrel
        clear HO7 HB7 HM7 hX7 hv7 HV7
        by_cases hkx : k < L
        · exfalso
          have := HLz.out
          omega
        · have hkI : ¬ (k : Int) < (L : Int) := by omega
          obtain rfl : k = L := by omega
          rw [← hrl, List.take_length] at HOk
          rw [← hrl, List.take_length] at HFk
          obtain ⟨l, hl⟩ : ∃ l : List Val, l = ⟨vk, vn, vs⟩ :: rs.map (·.v) := ⟨_, rfl⟩
          rw [← hl] at HOk
          obtain ⟨q5, c5, hv5, R5, _, _⟩ := ownV_slice HOk.out
          subst hv5
          have hll : l.length = e.xs.length := by rw [hl, List.length_cons, List.length_map]; omega
          have hgl : ∀ v ∈ l, RtV v := by
            intro v hv
            rw [hl] at hv
            rcases List.mem_cons.1 hv with rfl | hv
            · exact HGD.out
            · obtain ⟨a, ha, rfl⟩ := List.mem_map.1 hv
              obtain ⟨j, hj, rfl⟩ := List.getElem_of_mem ha
              have hj1 : j + 1 < e.xs.length := by omega
              rw [hri j hj hj1]
              exact rt_evN HCV.out.rg HCV.out.kg m _ (HRS.out (j + 1) hj1)
          have hap : ApOk e.k l := ⟨by rw [hl]; simp, fun q => by rw [hll]; exact hk4 q, by omega⟩
          have TA := hid (app_any e (some ⟨b, off, none⟩) 1 q5 c5 l wr R5 hgl hap)
          have HMD : Hid (mdR e.k e.op ⟨vk, vn, vs⟩ rs = apB e.k e.op l) := by
            show _ = _
            rw [hmd.out, HFk.out, hl]
            rfl
          rw [Ans.out_eq] at TA
          generalize apB e.k e.op l = ap at *
          obtain ⟨⟨ak, an, as'⟩, ae⟩ := ap
          simp only [] at TA
          obtain ⟨x0', x1', x2', x3', x4', x5', x6', x7', x8', x9'⟩ := HMk.out.ex.cells
          have hbe' : w.heap.size + 1 < wr.heap.size := by omega
          clear hL hL1 hL2 hll hrl hl hri hgl hap hlen hkI
          try clear hcap
          go_upto_region 10 with (first
            | (go_at_call 64; go_loud (with_reducible refine TA.out.mono ?_); rintro r w5 ⟨rfl, b5⟩; have HB5 := hid (HBk.out.trans (b5.mono HBk.out.size)); have HM5 := hid (HMk.out.low hsk b5); have hs5 := Nat.le_trans hsk b5.size; clear b5)
            | fail)
          have HA8 := hid (albl' w5 (.cells #[.int .i64 ak, .int .i64 an, .string as'] 23))
          have HX8 := hid (Box.new w5 ak an as' 23)
          have HM8 := hid (HM5.out.low hs5 HA8.out)
          have HB8 := hid (HB5.out.trans (HA8.out.mono HB5.out.size))
          generalize w5.alloc (.cells #[.int .i64 ak, .int .i64 an, .string as'] 23) = W8 at *
          obtain ⟨z0, z1, z2, zl⟩ := HX8.out.get
          obtain ⟨r0, r1, r2, f0, f1, f2⟩ := HM8.out.bx.out
          have hbr : w.heap.size + 2 < W8.heap.size := cell_lt r0
          by_cases ha : ae = 0
          · subst ha
            go_wp2_with (first
              | (go_at_call 65; with_reducible refine (evIf_ok _).mono ?_; rintro r w9 ⟨rfl, hw9⟩; subst hw9)
              | fail)
            have R' := HM8.out.bx.put ak an as'
            have B' := below_put3 HB8.out q3 (.int .i64 ak) (.int .i64 an) (.string as')
            clear r0 r1 r2
            obtain ⟨r0, r1, r2, _, _, _⟩ := R'.out
            refine bodyPost_ret (by simp [results, Tryz.results44, go_sem, r0, r1, r2]; try rfl) rfl ?_
            refine ⟨?_, B'⟩
            rw [← hrs, HMD.out]
            exact Or.inl ⟨rfl, rfl⟩
          · have hab : (ae != 0) = true := bne_iff_ne.2 ha
            go_wp2_with (first
              | (go_at_call 65; with_reducible refine (evIf_bad _ _ hab).mono ?_; rintro r w9 ⟨rfl, hw9⟩; subst hw9)
              | fail)
            refine ⟨rfl, ?_, HB8.out⟩
            rw [← hrs, HMD.out]
            exact Or.inr ⟨ha, rfl⟩
    · have hoff : off + 10 = off + 10 := rfl
      go_upto_region 5 with fail
      go_loopw [29, 5] (fun i v wr => ∃ k : Nat, k ≤ L ∧ i = .int .i64 (k : Int) ∧ Hid (OwnV wr (w.heap.size + 3) v (⟨vk, vn, vs⟩ :: (rs.take k).map (·.v))) ∧ Hid (feB (rs.take k) = 0) ∧ Hid (Below w.heap.size w wr) ∧ Hid (MB wr w.heap.size pr row.length cr pk kn.length ck e (some ⟨b, off, none⟩) c) ∧ w.heap.size + 3 ≤ wr.heap.size) (fun i _ _ => L - (RowKit.intOf i).toNat)
      case atStart => exact ⟨0, Nat.zero_le _, rfl, HO7.out, rfl, HB7.out, HM7.out, hX7⟩
      case round =>
        obtain ⟨k, hk, rfl, HOk, HFk, HBk, HMk, hsk⟩ := hrel
        clear HO7 HB7 HM7 hX7 hv7 HV7
        by_cases hkx : k < L
        · have hkI : (k : Int) < (L : Int) := by omega
          have hk0 : (0 : Int) ≤ (k : Int) := by omega
          have hk1 : k + 1 < e.xs.length := by omega
          have hkr : k < rs.length := by omega
          obtain ⟨b', off', q', cq', e1, X', EX', hcq'⟩ := (HRW.out.below HBk.out).cap hk1
          obtain ⟨rfl, rfl⟩ : b = b' ∧ off = off' := by simpa using e1
          have hbw : b < wr.heap.size := cell_lt X'.1
          rw [show off + (k + 1) * 10 = off + 10 + k * 10 by omega] at X'
          have hrx := HRS.out (k + 1) hk1
          have hev := hri k hkr hk1
          have HF1 := hid (feB_take hkr HFk.out)
          have HF2 := hid (fun q => feB_bad hkr HFk.out q)
          have HT1 : Hid ((rs.take (k + 1)).map (·.v) = (rs.take k).map (·.v) ++ [rs[k].v]) := by
            show _ = _
            rw [List.take_succ_eq_append_getElem hkr, List.map_append]; rfl
          rw [hev] at HF1 HF2 HT1
          obtain ⟨x0', x1', x2', x3', x4', x5', x6', x7', x8', x9'⟩ := X'
          have HGX := hid EX'
          clear EX' e1 hev
          generalize e.xs[k + 1] = x at *
          obtain ⟨m0, m1⟩ := HMk.out.ov
          have hbo : w.heap.size < wr.heap.size := by omega
          have HA := hid (BGx.new wr x q' cq')
          have HAB := hid (albl' wr (.cells #[.int .i64 x.k, .int .i64 x.op, .int .i64 x.v.k, .int .i64 x.v.n, .string x.v.s, .string ⟨x.t.toArray⟩, .string ⟨x.n.toArray⟩, .int .i64 x.c, .int .i64 x.y, .slice q' x.xs.length cq'] 26))
          have HTW := hid (HWW.out _ x q' cq' (HCV.out.below (HBk.out.trans (HAB.out.mono HBk.out.size))) (HGX.out.below HAB.out) hrx hcq')
          generalize evN M row kn m x = y at *
          obtain ⟨⟨yk, yn, ys⟩, ye⟩ := y
          simp only [] at HF1 HF2 HT1 HTW
          go_upto_region 7 with fail
          have hMA := HMk.out.low (Nat.le_refl _) (HAB.out.mono hsk)
          have HMA := hid hMA
          have HOA := hid (HOk.out.below HAB.out)
          have HBA := hid (HBk.out.trans (HAB.out.mono HBk.out.size))
          clear m0 m1 x0' x1' x2' x3' x4' x5' x6' x7' x8' x9' HGX HAB
          obtain ⟨m0, m1⟩ := hMA.ov
          obtain ⟨x0', x1', x2', x3', x4', x5', x6', x7', x8', x9'⟩ := HA.out.cells
          have hAs : (wr.alloc (.cells #[.int .i64 x.k, .int .i64 x.op, .int .i64 x.v.k, .int .i64 x.v.n, .string x.v.s, .string ⟨x.t.toArray⟩, .string ⟨x.n.toArray⟩, .int .i64 x.c, .int .i64 x.y, .slice q' x.xs.length cq'] 26)).heap.size = wr.heap.size + 1 := by simp
          generalize hWA : wr.alloc (.cells #[.int .i64 x.k, .int .i64 x.op, .int .i64 x.v.k, .int .i64 x.v.n, .string x.v.s, .string ⟨x.t.toArray⟩, .string ⟨x.n.toArray⟩, .int .i64 x.c, .int .i64 x.y, .slice q' x.xs.length cq'] 26) = WA at *
          clear hWA hMA
          by_cases hy : ye = 0
          · have TW := hid (HTW.out.mono (fun r w' h => (⟨h.1.resolve_right (fun q => q.1 hy), h.2⟩ : (ye = 0 ∧ r = .returned (.agg #[.int .i64 yk, .int .i64 yn, .string ys])) ∧ Below WA.heap.size WA w')))
            rw [hy] at HF1
            clear hy HTW HF2
            have h3A : w.heap.size + 3 ≤ WA.heap.size := by omega
            have HO2 : Hid (∀ w' v', OwnV w' (w.heap.size + 3) v' ((⟨vk, vn, vs⟩ :: (rs.take k).map (·.v)) ++ [⟨yk, yn, ys⟩]) → OwnV w' (w.heap.size + 3) v' (⟨vk, vn, vs⟩ :: (rs.take (k + 1)).map (·.v))) := fun w' v' h => by
              rw [HT1.out]; exact h
            go_wp2_with (first
              | (go_at_call 23; with_reducible refine TW.out.mono ?_; rintro r w5 ⟨⟨_, rfl⟩, b5⟩; have HB5 := hid (HBA.out.trans (b5.mono HBA.out.size)); have HM5 := hid (HMA.out.low h3A b5); have HO5 := hid (HOA.out.below b5); have hs5 := Nat.le_trans h3A b5.size; clear b5)
              | (at_builtin; go_loud (refine appV w5 (w.heap.size + 3) _ _ _ u5 (⟨vk, vn, vs⟩ :: (rs.take k).map (·.v)) yk yn ys rfl rfl rfl rfl rfl HO5.out (by simp only [List.length_cons, List.length_map, List.length_take]; omega) (by omega) ?_); intro v' w6 O' B'; have HO6 := hid (HO2.out _ _ O'); have HM6 := hid (HM5.out.low (Nat.le_refl _) B'); have HB6 := hid (HB5.out.trans (B'.mono (Nat.le_add_right _ _))); have hs6 := Nat.le_trans hs5 B'.size; clear O' B')
              | fail)
            go_roundw
            case rel => exact ⟨k + 1, by omega, by go_num, HO6.out, HF1.out, HB6.out, HM6.out, hs6⟩
            case measure => simp [RowKit.intOf]; omega
          · have TW := hid (HTW.out.mono (fun r w' h => (⟨h.1.resolve_left (fun q => hy q.1), h.2⟩ : (ye ≠ 0 ∧ r = .panicked (thrE ye)) ∧ Below WA.heap.size WA w')))
            have HFE := hid (HF2.out hy)
            clear HTW HF1 HF2
            go_wp2_with (first
              | (go_at_call 23; with_reducible refine TW.out.mono ?_; rintro r w5 ⟨⟨_, rfl⟩, b5⟩; have HB5 := hid (HBA.out.trans (b5.mono HBA.out.size)); clear b5)
              | fail)
            refine ⟨rfl, ?_, HB5.out⟩
            rw [hmd.out, ← hrs, HFE.out]
            simp only [Bool.false_eq_true, if_false]
            rw [if_pos hy]
            exact Or.inr ⟨hy, rfl⟩
        · have hkI : ¬ (k : Int) < (L : Int) := by omega
          obtain rfl : k = L := by omega
          rw [← hrl, List.take_length] at HOk
          rw [← hrl, List.take_length] at HFk
          obtain ⟨l, hl⟩ : ∃ l : List Val, l = ⟨vk, vn, vs⟩ :: rs.map (·.v) := ⟨_, rfl⟩
          rw [← hl] at HOk
          obtain ⟨q5, c5, hv5, R5, _, _⟩ := ownV_slice HOk.out
          subst hv5
          have hll : l.length = e.xs.length := by rw [hl, List.length_cons, List.length_map]; omega
          have hgl : ∀ v ∈ l, RtV v := by
            intro v hv
            rw [hl] at hv
            rcases List.mem_cons.1 hv with rfl | hv
            · exact HGD.out
            · obtain ⟨a, ha, rfl⟩ := List.mem_map.1 hv
              obtain ⟨j, hj, rfl⟩ := List.getElem_of_mem ha
              have hj1 : j + 1 < e.xs.length := by omega
              rw [hri j hj hj1]
              exact rt_evN HCV.out.rg HCV.out.kg m _ (HRS.out (j + 1) hj1)
          have hap : ApOk e.k l := ⟨by rw [hl]; simp, fun q => by rw [hll]; exact hk4 q, by omega⟩
          have TA := hid (app_any e (some ⟨b, off, none⟩) c q5 c5 l wr R5 hgl hap)
          have HMD : Hid (mdR e.k e.op ⟨vk, vn, vs⟩ rs = apB e.k e.op l) := by
            show _ = _
            rw [hmd.out, HFk.out, hl]
            rfl
          rw [Ans.out_eq] at TA
          generalize apB e.k e.op l = ap at *
          obtain ⟨⟨ak, an, as'⟩, ae⟩ := ap
          simp only [] at TA
          obtain ⟨x0', x1', x2', x3', x4', x5', x6', x7', x8', x9'⟩ := HMk.out.ex.cells
          have hbe' : w.heap.size + 1 < wr.heap.size := by omega
          clear hL hL1 hL2 hll hrl hl hri hgl hap hlen hkI
          try clear hcap
          go_upto_region 10 with (first
            | (go_at_call 64; go_loud (with_reducible refine TA.out.mono ?_); rintro r w5 ⟨rfl, b5⟩; have HB5 := hid (HBk.out.trans (b5.mono HBk.out.size)); have HM5 := hid (HMk.out.low hsk b5); have hs5 := Nat.le_trans hsk b5.size; clear b5)
            | fail)
          have HA8 := hid (albl' w5 (.cells #[.int .i64 ak, .int .i64 an, .string as'] 23))
          have HX8 := hid (Box.new w5 ak an as' 23)
          have HM8 := hid (HM5.out.low hs5 HA8.out)
          have HB8 := hid (HB5.out.trans (HA8.out.mono HB5.out.size))
          generalize w5.alloc (.cells #[.int .i64 ak, .int .i64 an, .string as'] 23) = W8 at *
          obtain ⟨z0, z1, z2, zl⟩ := HX8.out.get
          obtain ⟨r0, r1, r2, f0, f1, f2⟩ := HM8.out.bx.out
          have hbr : w.heap.size + 2 < W8.heap.size := cell_lt r0
          by_cases ha : ae = 0
          · subst ha
            go_wp2_with (first
              | (go_at_call 65; with_reducible refine (evIf_ok _).mono ?_; rintro r w9 ⟨rfl, hw9⟩; subst hw9)
              | fail)
            have R' := HM8.out.bx.put ak an as'
            have B' := below_put3 HB8.out q3 (.int .i64 ak) (.int .i64 an) (.string as')
            clear r0 r1 r2
            obtain ⟨r0, r1, r2, _, _, _⟩ := R'.out
            refine bodyPost_ret (by simp [results, Tryz.results44, go_sem, r0, r1, r2]; try rfl) rfl ?_
            refine ⟨?_, B'⟩
            rw [← hrs, HMD.out]
            exact Or.inl ⟨rfl, rfl⟩
          · have hab : (ae != 0) = true := bne_iff_ne.2 ha
            go_wp2_with (first
              | (go_at_call 65; with_reducible refine (evIf_bad _ _ hab).mono ?_; rintro r w9 ⟨rfl, hw9⟩; subst hw9)
              | fail)
            refine ⟨rfl, ?_, HB8.out⟩
            rw [← hrs, HMD.out]
            exact Or.inr ⟨ha, rfl⟩
end Go.Proofs.YtblkhlhhlalbkaaGreatDoor
namespace Go.Proofs.YtblkhlhhlalbkaaGreatDoor
open Go.RowKit Go.Lib Go.Sort
set_option linter.unusedVariables false
set_option maxRecDepth 20000

theorem md_cons (k op : Int) (a : Ans) (r : List Ans) : mdB k op (a :: r) = if a.e ≠ 0 then ⟨nullV, a.e⟩ else mdR k op a.v r := by
  unfold mdR
  rw [mdB]
  rfl
theorem cons_tail {α : Type} : ∀ (l : List α) (h : 0 < l.length), l = l[0] :: l.tail
  | [], h => absurd h (Nat.not_lt_zero _)
  | a :: r, _ => rfl
/-- made, all in all. -/
theorem made_any (M : Nat) (row : List Val) (pr : Option Addr) (cr : Nat) (kn : List (Gx × Val)) (pk : Option Addr) (ck m : Nat) (HW : WorthOk M row pr cr kn pk ck m) (w : World) (e : Gx) (p : Option Addr) (c : Nat) (cv : Cv w M row pr kn pk) (hr : RowG w m p e.xs) (he : RtN (m + 1) e) (hcap : e.xs.length ≤ c) (hn : noneB e = false) (h1 : e.k ≠ 1) (h2 : e.k ≠ 2) (h6 : e.k ≠ 6) :
    Calls Tryz.prog 44 #[oV pr row.length cr pk kn.length ck, gV e p c] w fun r w' => WE (mdB e.k e.op (e.xs.map (evN M row kn m))) r ∧ Below w.heap.size w w' := by
  have hf := fitN_len hn
  have h0 : 0 < e.xs.length := fitN_pos hf h1 h2 h6
  have hx : e.xs.map (evN M row kn m) = evN M row kn m e.xs[0] :: e.xs.tail.map (evN M row kn m) := by
    rw [← List.map_cons, ← cons_tail e.xs h0]
  have hm : mdB e.k e.op (e.xs.map (evN M row kn m)) = if (evN M row kn m e.xs[0]).e ≠ 0 then ⟨nullV, (evN M row kn m e.xs[0]).e⟩ else mdR e.k e.op (evN M row kn m e.xs[0]).v (e.xs.tail.map (evN M row kn m)) := by
    rw [hx, md_cons]
  rw [hm]
  by_cases hb : (evN M row kn m e.xs[0]).e = 0
  · rw [if_neg (by simpa using hb)]
    exact made_ok M row pr cr kn pk ck m HW w e p c cv hr he h0 hcap hb (fun q => Nat.le_of_eq (fitN_two hf q).symm)
  · rw [if_pos hb]
    refine (made_bad M row pr cr kn pk ck m HW w e p c cv hr he h0 hcap hb).mono ?_
    rintro r w' ⟨rfl, b⟩
    exact ⟨Or.inr ⟨hb, rfl⟩, b⟩
set_option maxHeartbeats 16000000 in
theorem worth_core (M : Nat) (row : List Val) (pr : Option Addr) (cr : Nat) (kn : List (Gx × Val)) (pk : Option Addr) (ck : Nat) (w : World) (e : Gx) (p : Option Addr) (c : Nat) (rs : List Ans) (cv : Cv w M row pr kn pk) (hg : GAt w M e p) (he : RtB e) (hxl : e.xs.length ≤ 1048576)
    (hmade : ∀ w', Below w.heap.size w w' → noneB e = false → e.k ≠ 1 → e.k ≠ 2 → e.k ≠ 6 → Calls Tryz.prog 44 #[oV pr row.length cr pk kn.length ck, gV e p c] w' fun r w'' => WE (mdB e.k e.op rs) r ∧ Below w'.heap.size w' w'') :
    Calls Tryz.prog 23 #[oV pr row.length cr pk kn.length ck, gV e p c] w fun r w' => WE (evB M row kn e rs) r ∧ Below w.heap.size w w' := by
  have B := MW.low w pr row.length cr pk kn.length ck e p c
  have HM := hid (MW.mb w pr row.length cr pk kn.length ck e p c)
  have hsz := MW.size w pr row.length cr pk kn.length ck e p c
  have HB := hid B
  have HCV := hid cv
  have HMD := hid hmade
  have HE := hid he
  have hnl := cv.K.len
  have HG := hid hg
  clear cv hg hmade he B
  unfold MW at *
  go_enter Tryz.func23, Tryz.ntmps23
  go_upto_region 1 with fail
  generalize hW : World.alloc _ _ = W at *
  clear hW
  have hWl : w.heap.size < W.heap.size := by omega
  obtain ⟨m0, m1⟩ := HM.out.ov
  have TF := hid (find_any M kn e pk p ck c (w.heap.size + 1) W (HCV.out.K.below HB.out) (HG.out.below HB.out) HM.out.ex)
  have q3 : w.heap.size ≤ w.heap.size + 2 := by omega
  have hmf : ∀ (fn : Fn) (first cap : Array Value) (w : World), (Instr.makeFunc fn first cap).run Tryz.prog w = .ok (.func fn first cap) w := fun _ _ _ _ => rfl
  cases hfd : kn.find? (fun q => smN M q.1 e) with
  | some q =>
    obtain ⟨k, hk⟩ : ∃ k, k = kn.findIdx (fun q => smN M q.1 e) := ⟨_, rfl⟩
    have HEV : Hid (evB M row kn e rs = ⟨q.2, 0⟩) := by
      show _ = _
      unfold evB
      rw [hfd]
    have T2 := hid (TF.out.mono (fun r w' h => show (∃ h : k < kn.length, r = .returned (.int .i64 (k : Int)) ∧ kn[k] = q) ∧ Below W.heap.size W w' from by
      rcases h.1 with ⟨_, hq⟩ | ⟨k', hk', hr, hq, hi⟩
      · rw [hfd] at hq; cases hq
      · rw [hfd] at hq
        have e1 : k' = k := hi.trans hk.symm
        subst e1
        exact ⟨⟨hk', hr, (Option.some.inj hq).symm⟩, h.2⟩))
    clear TF hfd hk
    go_upto_region 4 with (first
      | (go_at_call 41; with_reducible refine T2.out.mono ?_; rintro r w2 ⟨⟨hkn, rfl, hq⟩, b2⟩; have HKN := hid hkn; have HQ := hid hq; have HB2 := hid b2; clear hq b2)
      | fail)
    have HM2 := hid (HM.out.low (Nat.le_of_eq hsz.symm) HB2.out)
    have HBW := hid (HB.out.trans (HB2.out.mono HB.out.size))
    obtain ⟨bk, ok, qk, cqk, rfl, _, V, _⟩ := (HCV.out.K.below HBW.out).at HKN.out
    rw [HQ.out] at V
    obtain ⟨v0, v1, v2⟩ := V
    have hbk : bk < w2.heap.size := cell_lt v0
    clear m0 m1
    obtain ⟨m0, m1⟩ := HM2.out.ov
    obtain ⟨r0, r1, r2, f0, f1, f2⟩ := HM2.out.bx.out
    have hb0 : w.heap.size < w2.heap.size := cell_lt m0
    have hb2 : w.heap.size + 2 < w2.heap.size := cell_lt r0
    have hkI : (k : Int) < (kn.length : Int) := by have := HKN.out; omega
    have hk0 : (0 : Int) ≤ (k : Int) := by omega
    have hkN := HKN.out
    obtain ⟨qe, ⟨vk, vn, vs⟩⟩ := q
    simp only [] at v0 v1 v2 HEV
    clear HQ
    go_wp2_with fail
    have R' := HM2.out.bx.put vk vn vs
    have B' := below_put3 HBW.out q3 (.int .i64 vk) (.int .i64 vn) (.string vs)
    clear r0 r1 r2
    obtain ⟨r0, r1, r2, _, _, _⟩ := R'.out
    refine bodyPost_ret (by simp [results, Tryz.results23, go_sem, r0, r1, r2]; try rfl) rfl ?_
    refine ⟨?_, B'⟩
    rw [HEV.out]
    exact Or.inl ⟨rfl, rfl⟩
  | none =>
    have T2 := hid (TF.out.mono (fun r w' h => show r = .returned (.int .i64 (-1)) ∧ Below W.heap.size W w' from by
      rcases h.1 with ⟨hr, _⟩ | ⟨k', hk', hr, hq, hi⟩
      · exact ⟨hr, h.2⟩
      · rw [hfd] at hq; cases hq))
    have HEV : Hid (evB M row kn e rs = if noneB e then ⟨nullV, 5⟩ else if e.k = 1 then ⟨e.v, 0⟩ else if e.k = 2 then (if 0 ≤ e.c ∧ e.c < row.length then ⟨row.getD e.c.toNat nullV, 0⟩ else ⟨nullV, 2⟩) else if e.k = 6 then ⟨nullV, 36⟩ else mdB e.k e.op rs) := by
      show _ = _
      unfold evB
      rw [hfd]
    clear TF hfd
    go_upto_region 5 with (first
      | (go_at_call 41; with_reducible refine T2.out.mono ?_; rintro r w2 ⟨rfl, b2⟩; have HB2 := hid b2; clear b2)
      | fail)
    have HM2 := hid (HM.out.low (Nat.le_of_eq hsz.symm) HB2.out)
    have HBW := hid (HB.out.trans (HB2.out.mono HB.out.size))
    have TN := hid (none_any e p c w2 (HCV.out.T.below HBW.out) ⟨HE.out.1.2.1, HE.out.1.1.1, HE.out.1.1.2⟩ HE.out.2.1 HE.out.2.2 hxl)
    clear m0 m1 T2
    obtain ⟨x0, x1, x2, x3, x4, x5, x6, x7, x8, x9⟩ := HM2.out.ex.cells
    have hb1 : w.heap.size + 1 < w2.heap.size := HM2.out.ex.lt
    have hs2 : w.heap.size + 3 ≤ w2.heap.size := by have := HB2.out.size; omega
    cases hno : noneB e with
    | true =>
      rw [hno] at TN
      rw [hno, if_pos rfl] at HEV
      go_wp2_with (first
        | (go_at_call 42; with_reducible refine TN.out.mono ?_; rintro r w3 ⟨rfl, b3⟩; have HB3 := hid (HBW.out.trans (b3.mono HBW.out.size)); clear b3)
        | fail)
      refine ⟨rfl, ?_, HB3.out⟩
      rw [HEV.out]
      exact Or.inr ⟨by decide, rfl⟩
    | false =>
      rw [hno] at TN
      rw [hno, if_neg (by decide)] at HEV
      have HNO := hid hno
      clear hno
      go_upto_region 7 with (first
        | (go_at_call 42; with_reducible refine TN.out.mono ?_; rintro r w3 ⟨rfl, b3⟩; have HM3 := hid (HM2.out.low hs2 b3); have HB3 := hid (HBW.out.trans (b3.mono HBW.out.size)); have hs3 := Nat.le_trans hs2 b3.size; clear b3)
        | fail)
      clear x0 x1 x2 x3 x4 x5 x6 x7 x8 x9 TN
      obtain ⟨x0, x1, x2, x3, x4, x5, x6, x7, x8, x9⟩ := HM3.out.ex.cells
      obtain ⟨m0, m1⟩ := HM3.out.ov
      obtain ⟨r0, r1, r2, f0, f1, f2⟩ := HM3.out.bx.out
      have hc0 : w.heap.size < w3.heap.size := by omega
      have hc1 : w.heap.size + 1 < w3.heap.size := by omega
      have hc2 : w.heap.size + 2 < w3.heap.size := by omega
      by_cases k1 : e.k = 1
      · have d1 : (e.k == 1) = true := beq_iff_eq.2 k1
        rw [if_pos k1] at HEV
        clear k1
        go_wp2_with fail
        have R' := HM3.out.bx.put e.v.k e.v.n e.v.s
        have B' := below_put3 HB3.out q3 (.int .i64 e.v.k) (.int .i64 e.v.n) (.string e.v.s)
        clear r0 r1 r2
        obtain ⟨r0, r1, r2, _, _, _⟩ := R'.out
        refine bodyPost_ret (by simp [results, Tryz.results23, go_sem, r0, r1, r2]; try rfl) rfl ?_
        refine ⟨?_, B'⟩
        rw [HEV.out]
        exact Or.inl ⟨rfl, rfl⟩
      have d1 : (e.k == 1) = false := beq_eq_false_iff_ne.2 k1
      rw [if_neg k1] at HEV
      by_cases k2 : e.k = 2
      · have d2 : (e.k == 2) = true := beq_iff_eq.2 k2
        rw [if_pos k2] at HEV
        have TC := hid (col_any row e.c pr cr pk kn.length ck w3 (HCV.out.R.below HB3.out) HCV.out.rl)
        generalize (if 0 ≤ e.c ∧ e.c < row.length then (⟨row.getD e.c.toNat nullV, 0⟩ : Ans) else ⟨nullV, 2⟩) = y at *
        obtain ⟨⟨yk, yn, ys⟩, ye⟩ := y
        clear k1 k2
        by_cases hy : ye = 0
        · have T3 := hid (TC.out.mono (fun r w' h => show r = .returned (.agg #[.int .i64 yk, .int .i64 yn, .string ys]) ∧ Below w3.heap.size w3 w' from ⟨(h.1.resolve_right (fun q => q.1 hy)).2, h.2⟩))
          clear TC
          go_wp2_with (first
            | (go_at_call 43; with_reducible refine T3.out.mono ?_; rintro r w4 ⟨rfl, b4⟩; have HM4 := hid (HM3.out.low hs3 b4); have HB4 := hid (HB3.out.trans (b4.mono HB3.out.size)); obtain ⟨r0, r1, r2, f0, f1, f2⟩ := HM4.out.bx.out; clear b4)
            | fail)
          have R' := HM4.out.bx.put yk yn ys
          have B' := below_put3 HB4.out q3 (.int .i64 yk) (.int .i64 yn) (.string ys)
          clear r0 r1 r2
          obtain ⟨r0, r1, r2, _, _, _⟩ := R'.out
          refine bodyPost_ret (by simp [results, Tryz.results23, go_sem, r0, r1, r2]; try rfl) rfl ?_
          refine ⟨?_, B'⟩
          rw [HEV.out]
          exact Or.inl ⟨hy, rfl⟩
        · have T3 := hid (TC.out.mono (fun r w' h => show r = .panicked (thrE ye) ∧ Below w3.heap.size w3 w' from ⟨(h.1.resolve_left (fun q => hy q.1)).2, h.2⟩))
          clear TC
          go_wp2_with (first
            | (go_at_call 43; with_reducible refine T3.out.mono ?_; rintro r w4 ⟨rfl, b4⟩; have HB4 := hid (HB3.out.trans (b4.mono HB3.out.size)); clear b4)
            | fail)
          refine ⟨rfl, ?_, HB4.out⟩
          rw [HEV.out]
          exact Or.inr ⟨hy, rfl⟩
      have d2 : (e.k == 2) = false := beq_eq_false_iff_ne.2 k2
      rw [if_neg k2] at HEV
      by_cases k6 : e.k = 6
      · have d6 : (e.k == 6) = true := beq_iff_eq.2 k6
        rw [if_pos k6] at HEV
        clear k1 k2 k6
        go_wp2_with fail
        refine ⟨rfl, ?_, HB3.out⟩
        rw [HEV.out]
        exact Or.inr ⟨by decide, rfl⟩
      have d6 : (e.k == 6) = false := beq_eq_false_iff_ne.2 k6
      rw [if_neg k6] at HEV
      have TC := hid (HMD.out w3 HB3.out HNO.out k1 k2 k6)
      generalize mdB e.k e.op rs = y at *
      obtain ⟨⟨yk, yn, ys⟩, ye⟩ := y
      clear k1 k2 k6
      by_cases hy : ye = 0
      · have T3 := hid (TC.out.mono (fun r w' h => show r = .returned (.agg #[.int .i64 yk, .int .i64 yn, .string ys]) ∧ Below w3.heap.size w3 w' from ⟨(h.1.resolve_right (fun q => q.1 hy)).2, h.2⟩))
        clear TC
        go_wp2_with (first
          | (go_at_call 44; with_reducible refine T3.out.mono ?_; rintro r w4 ⟨rfl, b4⟩; have HM4 := hid (HM3.out.low hs3 b4); have HB4 := hid (HB3.out.trans (b4.mono HB3.out.size)); obtain ⟨r0, r1, r2, f0, f1, f2⟩ := HM4.out.bx.out; clear b4)
          | fail)
        have R' := HM4.out.bx.put yk yn ys
        have B' := below_put3 HB4.out q3 (.int .i64 yk) (.int .i64 yn) (.string ys)
        clear r0 r1 r2
        obtain ⟨r0, r1, r2, _, _, _⟩ := R'.out
        refine bodyPost_ret (by simp [results, Tryz.results23, go_sem, r0, r1, r2]; try rfl) rfl ?_
        refine ⟨?_, B'⟩
        rw [HEV.out]
        exact Or.inl ⟨hy, rfl⟩
      · have T3 := hid (TC.out.mono (fun r w' h => show r = .panicked (thrE ye) ∧ Below w3.heap.size w3 w' from ⟨(h.1.resolve_left (fun q => hy q.1)).2, h.2⟩))
        clear TC
        go_wp2_with (first
          | (go_at_call 44; with_reducible refine T3.out.mono ?_; rintro r w4 ⟨rfl, b4⟩; have HB4 := hid (HB3.out.trans (b4.mono HB3.out.size)); clear b4)
          | fail)
        refine ⟨rfl, ?_, HB4.out⟩
        rw [HEV.out]
        exact Or.inr ⟨hy, rfl⟩
theorem worth_all (M : Nat) (row : List Val) (pr : Option Addr) (cr : Nat) (kn : List (Gx × Val)) (pk : Option Addr) (ck : Nat) : ∀ m, m ≤ M → WorthOk M row pr cr kn pk ck m
  | 0, hm => fun w e p c cv hg he hcap => worth_core M row pr cr kn pk ck w e p c [] cv (hg.le hm) he (by rw [show e.xs = [] from hg]; simp) (fun w' B hn h1 h2 h6 => by
    have := fitN_pos (fitN_len hn) h1 h2 h6
    rw [show e.xs = [] from hg] at this
    simp at this)
  | m + 1, hm => fun w e p c cv hg he hcap => worth_core M row pr cr kn pk ck w e p c _ cv (hg.le hm) he.1 (gat_row hg).len (fun w' B hn h1 h2 h6 => made_any M row pr cr kn pk ck m (worth_all M row pr cr kn pk ck m (by omega)) w' e p c (cv.below B) ((gat_row hg).below B) he hcap hn h1 h2 h6)
end Go.Proofs.YtblkhlhhlalbkaaGreatDoor
namespace Go.Proofs.YtblkhlhhlalbkaaGreatDoor
open Go.RowKit Go.Lib Go.Sort
set_option linter.unusedVariables false
set_option maxRecDepth 20000

theorem enters_eval1 (args : Array Value) (w : World) : (callFunc 22 args).run Tryz.prog w = .ok (.enter 22 args) w := by
  first | (simp [go_sem]; done) | kernel_rfl
set_option maxHeartbeats 4000000 in
theorem eval1_any (x : Ans) (e : Gx) (p : Option Addr) (c b0 b1 b2 : Nat) (pr : Option Addr) (nr cr : Nat) (pk : Option Addr) (nk ck : Nat) (w : World) (h1 : w.cell? ⟨b1, 0, none⟩ = some (.slice pr nr cr)) (h2 : w.cell? ⟨b2, 0, none⟩ = some (.slice pk nk ck)) (h0 : BGx w b0 e p c)
    (hW : ∀ w', Below w.heap.size w w' → Calls Tryz.prog 23 #[oV pr nr cr pk nk ck, gV e p c] w' fun r w'' => WE x r ∧ Below w'.heap.size w' w'') :
    Calls Tryz.prog 22 #[.pointer (some ⟨b1, 0, none⟩), .pointer (some ⟨b2, 0, none⟩), .pointer (some ⟨b0, 0, none⟩)] w fun r w' => WE x r ∧ Below w.heap.size w w' := by
  have B := albl' w (.cells #[.int .i64 0, .int .i64 0, .string ⟨#[]⟩] 23)
  have TC := hid (hW _ B)
  have HX := hid (h0.below B)
  have m1 := below_cell B h1
  have m2 := below_cell B h2
  have hl1 := cell_lt m1
  have hl2 := cell_lt m2
  have HR := hid (Box.new w 0 0 ⟨#[]⟩ 23)
  have HB := hid B
  have hl0 := HX.out.lt
  obtain ⟨x0, x1, x2, x3, x4, x5, x6, x7, x8, x9⟩ := HX.out.cells
  obtain ⟨⟨xk, xn, xs⟩, xe⟩ := x
  clear B hW h0 h1 h2
  by_cases hy : xe = 0
  · have T3 := hid (TC.out.mono (fun r w' h => show r = .returned (.agg #[.int .i64 xk, .int .i64 xn, .string xs]) ∧ Below (w.alloc (.cells #[.int .i64 0, .int .i64 0, .string ⟨#[]⟩] 23)).heap.size (w.alloc (.cells #[.int .i64 0, .int .i64 0, .string ⟨#[]⟩] 23)) w' from ⟨(h.1.resolve_right (fun q => q.1 hy)).2, h.2⟩))
    clear TC
    go_enter Tryz.func22, Tryz.ntmps22
    go_wp2_with (first
      | (go_at_call 23; with_reducible refine T3.out.mono ?_; rintro r w4 ⟨rfl, b4⟩; have HR4 := hid (HR.out.below b4); have HB4 := hid (HB.out.trans (b4.mono HB.out.size)); obtain ⟨r0, r1, r2, f0, f1, f2⟩ := HR4.out.out; clear b4)
      | fail)
    have R' := HR4.out.put xk xn xs
    have B' := below_put3 HB4.out (Nat.le_refl _) (.int .i64 xk) (.int .i64 xn) (.string xs)
    clear r0 r1 r2
    obtain ⟨r0, r1, r2, _, _, _⟩ := R'.out
    refine bodyPost_ret (by simp [results, Tryz.results22, go_sem, r0, r1, r2]; try rfl) rfl ?_
    exact ⟨Or.inl ⟨hy, rfl⟩, B'⟩
  · have T3 := hid (TC.out.mono (fun r w' h => show r = .panicked (thrE xe) ∧ Below (w.alloc (.cells #[.int .i64 0, .int .i64 0, .string ⟨#[]⟩] 23)).heap.size (w.alloc (.cells #[.int .i64 0, .int .i64 0, .string ⟨#[]⟩] 23)) w' from ⟨(h.1.resolve_left (fun q => hy q.1)).2, h.2⟩))
    clear TC
    go_enter Tryz.func22, Tryz.ntmps22
    go_wp2_with (first
      | (go_at_call 23; with_reducible refine T3.out.mono ?_; rintro r w4 ⟨rfl, b4⟩; have HB4 := hid (HB.out.trans (b4.mono HB.out.size)); clear b4)
      | fail)
    exact ⟨rfl, Or.inr ⟨hy, rfl⟩, HB4.out⟩
set_option maxHeartbeats 4000000 in
/-- Eval. -/
theorem eval_any (M m : Nat) (hm : m ≤ M) (row : List Val) (pr : Option Addr) (cr : Nat) (kn : List (Gx × Val)) (pk : Option Addr) (ck : Nat) (w : World) (e : Gx) (p : Option Addr) (c : Nat) (cv : Cv w M row pr kn pk) (hg : GAt w m e p) (he : RtN m e) (hcap : e.xs.length ≤ c) :
    Calls Tryz.prog 12 #[gV e p c, .slice pr row.length cr, .slice pk kn.length ck] w fun r w' => r = .returned (evN M row kn m e).out ∧ Below w.heap.size w w' := by
  have HWO := hid (fun w' (b : Below w.heap.size w w') => worth_all M row pr cr kn pk ck m hm w' e p c (cv.below b) (hg.below b) he hcap)
  have HER := hid (evN_err M row kn m e)
  have hmf : ∀ (fn : Fn) (first cap : Array Value) (w : World), (Instr.makeFunc fn first cap).run Tryz.prog w = .ok (.func fn first cap) w := fun _ _ _ _ => rfl
  have B4 : Below w.heap.size w ((((w.alloc (.cells #[.int .i64 e.k, .int .i64 e.op, .int .i64 e.v.k, .int .i64 e.v.n, .string e.v.s, .string ⟨e.t.toArray⟩, .string ⟨e.n.toArray⟩, .int .i64 e.c, .int .i64 e.y, .slice p e.xs.length c] 26)).alloc (.cells #[.slice pr row.length cr] 27)).alloc (.cells #[.slice pk kn.length ck] 32)).alloc (.cells #[.int .i64 0, .int .i64 0, .string ⟨#[]⟩] 23)) := ((((Below.refl _ _).alloc (Nat.le_refl _) _).alloc (by simp) _).alloc (by simp; omega) _).alloc (by simp; omega) _
  have hX := ((BGx.new w e p c).below (albl2 _ (.cells #[.slice pr row.length cr] 27) (.cells #[.slice pk kn.length ck] 32))).below (albl' _ (.cells #[.int .i64 0, .int .i64 0, .string ⟨#[]⟩] 23))
  have hc1 : ((((w.alloc (.cells #[.int .i64 e.k, .int .i64 e.op, .int .i64 e.v.k, .int .i64 e.v.n, .string e.v.s, .string ⟨e.t.toArray⟩, .string ⟨e.n.toArray⟩, .int .i64 e.c, .int .i64 e.y, .slice p e.xs.length c] 26)).alloc (.cells #[.slice pr row.length cr] 27)).alloc (.cells #[.slice pk kn.length ck] 32)).alloc (.cells #[.int .i64 0, .int .i64 0, .string ⟨#[]⟩] 23)).cell? ⟨w.heap.size + 1, 0, none⟩ = some (.slice pr row.length cr) := by go_simp
  have hc2 : ((((w.alloc (.cells #[.int .i64 e.k, .int .i64 e.op, .int .i64 e.v.k, .int .i64 e.v.n, .string e.v.s, .string ⟨e.t.toArray⟩, .string ⟨e.n.toArray⟩, .int .i64 e.c, .int .i64 e.y, .slice p e.xs.length c] 26)).alloc (.cells #[.slice pr row.length cr] 27)).alloc (.cells #[.slice pk kn.length ck] 32)).alloc (.cells #[.int .i64 0, .int .i64 0, .string ⟨#[]⟩] 23)).cell? ⟨w.heap.size + 1 + 1, 0, none⟩ = some (.slice pk kn.length ck) := by go_simp
  have hR : Box ((((w.alloc (.cells #[.int .i64 e.k, .int .i64 e.op, .int .i64 e.v.k, .int .i64 e.v.n, .string e.v.s, .string ⟨e.t.toArray⟩, .string ⟨e.n.toArray⟩, .int .i64 e.c, .int .i64 e.y, .slice p e.xs.length c] 26)).alloc (.cells #[.slice pr row.length cr] 27)).alloc (.cells #[.slice pk kn.length ck] 32)).alloc (.cells #[.int .i64 0, .int .i64 0, .string ⟨#[]⟩] 23)) (w.heap.size + 1 + 1 + 1) ⟨0, 0, ⟨#[]⟩⟩ := Box.at (by simp) 0 0 ⟨#[]⟩ 23
  go_enter Tryz.func12, Tryz.ntmps12
  go_upto_region 1 with fail
  have HB := hid B4
  generalize hW : World.alloc _ _ = W at *
  clear hW
  have TC := hid (evCaught_any 22 #[.pointer (some ⟨w.heap.size + 1, 0, none⟩), .pointer (some ⟨w.heap.size + 1 + 1, 0, none⟩), .pointer (some ⟨w.heap.size, 0, none⟩)] (evN M row kn m e) W (enters_eval1 _) HER.out (fun w0 b0 => eval1_any _ e p c w.heap.size (w.heap.size + 1) (w.heap.size + 1 + 1) pr row.length cr pk kn.length ck w0 (below_cell b0 hc1) (below_cell b0 hc2) (hX.below b0) (fun w' b => HWO.out w' (HB.out.trans ((b0.trans (b.mono b0.size)).mono HB.out.size)))))
  have HR := hid hR
  rw [Ans.out_eq] at *
  generalize hxe : evN M row kn m e = x at *
  have HXE := hid hxe
  obtain ⟨⟨xk, xn, xs⟩, xe⟩ := x
  simp only [] at TC
  clear hX hc1 hc2 hR HWO HER cv hg he B4 hxe
  go_wp2_with (first
    | (go_at_call 21; with_reducible refine TC.out.mono ?_; rintro r w4 ⟨rfl, b4⟩; have HR4 := hid (HR.out.below b4); have HB4 := hid (HB.out.trans (b4.mono HB.out.size)); obtain ⟨r0, r1, r2, f0, f1, f2⟩ := HR4.out.out; clear b4)
    | fail)
  have R' := HR4.out.put xk xn xs
  have B' := below_put3 HB4.out (show w.heap.size ≤ w.heap.size + 1 + 1 + 1 by omega) (.int .i64 xk) (.int .i64 xn) (.string xs)
  clear r0 r1 r2
  obtain ⟨r0, r1, r2, _, _, _⟩ := R'.out
  refine bodyPost_ret (by simp [results, Tryz.results12, go_sem, r0, r1, r2]; try rfl) rfl ?_
  refine ⟨?_, B'⟩
  rw [HXE.out]
  rfl
end Go.Proofs.YtblkhlhhlalbkaaGreatDoor
