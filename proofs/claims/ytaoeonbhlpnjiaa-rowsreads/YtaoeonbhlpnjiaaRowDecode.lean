/- What (*reader).row, throw.Caught and Decode of package rows do: the row that the bytes are, or the error. Condition: the bytes lie within the reach. -/
import Derived.Test.YtaoeonbhlpnjiaaRowText
import Derived.Defers
import Derived.Recover
import Derived.Laws.Pointers
import Derived.Laws.NewBlocks
namespace Go.Proofs.Ytaoeonbhlpnjiaa
open Go.RowKit Go.Lib Go.Sort
set_option linter.unusedVariables false

/-- The ending of a row that is read. -/
def rowEndW (rb : Nat) (x : Except Int (List Val × List UInt8)) (w : World) (e : Ending) (w' : World) : Prop :=
  Only rb w w' ∧ match x with
    | .ok (vs, q) => ∃ v, e = .returned v ∧ OwnV w' w.heap.size v vs ∧ Rk w' rb q
    | .error n => e = .panicked (thr n)

set_option maxRecDepth 20000 in
set_option maxHeartbeats 4000000 in
theorem krow_any (rb : Nat) (l : List UInt8) (w : World) (hR : Rk w rb l) (hl : l.length * 32 ≤ 140737488351232) :
    Calls Try.prog 26 #[.pointer (some ⟨rb, 0, none⟩)] w (rowEndW rb (readW l) w) := by
  have hrb := hR.lt
  have N := knum_any rb l w hR (by omega)
  unfold numEndW at N
  unfold readW
  clear hR
  cases hx : numG 0 l with
  | error e =>
    rw [hx] at N
    simp only [] at N
    go_enter Try.func26, Try.ntmps26
    go_wp2_with (go_at_call 38; with_reducible refine N.mono ?_; rintro e w2 ⟨O2, rfl⟩)
    exact ⟨rfl, O2, rfl⟩
  | ok x =>
    obtain ⟨m0, r0⟩ := x
    have hm0 := numG_lt0 hx
    have hr0 : r0.length ≤ l.length := by
      obtain ⟨k, e1, e2, _⟩ := numG_rest l 0 m0 r0 hx
      rw [e1, List.length_drop]
      omega
    rw [hx] at N
    simp only [] at N ⊢
    clear hx
    generalize hres : rowG m0 r0 = res
    have HRes : Hid (res = uponW [] (rowG m0 r0)) := by show _ = _; rw [uponW_nil]; exact hres.symm
    clear hres
    go_enter Try.func26, Try.ntmps26
    go_wp2_with (go_at_call 38; with_reducible refine N.mono ?_; rintro e w2 ⟨O2, rfl, R2⟩; have HO2 := hid O2; have HR2 := hid R2; clear O2 R2)
    have hs2 := HO2.out.size
    go_loopw [3, 4] (fun b i wr => ∃ (acc : List Val) (r : List UInt8) (m : Nat), i = .int .u64 (m : Int) ∧ m < 18446744073709551616 ∧ OwnV wr w.heap.size b acc ∧ Rk wr rb r ∧ res = uponW acc (rowG m r) ∧ acc.length + r.length ≤ l.length ∧ Only rb w wr) (fun _ i _ => (RowKit.intOf i).toNat)
    case atStart => exact ⟨[], r0, m0, rfl, hm0, ownV_nil _ _, HR2.out, HRes.out, by simpa using hr0, HO2.out⟩
    case round =>
      clear HRes HR2 HO2 hr0 N hm0
      obtain ⟨acc, r, m, rfl, hm, hO, hR, hT, hL, hN⟩ := hrel
      have hsz := hN.size
      obtain ⟨pv, cv, rfl, rv, _, hmv⟩ := ownV_slice hO
      have HO : Hid (OwnV wr w.heap.size _ acc) := hO
      have HN : Hid (Only rb w wr) := hN
      have HT : Hid (res = uponW acc (rowG m r)) := hT
      have HRd : Hid (Rk wr rb r) := hR
      clear hO hN hT hR rv
      cases m with
      | zero =>
        have HT2 : Hid (res = .ok (acc, r)) := by show _ = _; rw [HT.out]; simp [rowG, uponW]
        go_wp2
        go_ret
        refine ⟨HN.out, ?_⟩
        rw [HT2.out]
        exact ⟨_, rfl, HO.out, HRd.out⟩
      | succ m =>
        have V := kvalue_any rb r wr HRd.out (by omega)
        unfold valEndW at V
        cases hv : valW r with
        | error e =>
          have HB : Hid (res = .error e) := HT.out.trans (uponW_bad hv)
          rw [hv] at V
          simp only [] at V
          clear HT HRd
          go_wp2_with (first
            | (go_at_call 39; with_reducible refine V.mono ?_; rintro e w3 ⟨O3, rfl⟩)
            | fail)
          refine ⟨rfl, HN.out.trans O3, ?_⟩
          have h2 := HB.out
          subst h2
          rfl
        | ok x =>
          obtain ⟨⟨xk, xn, xt⟩, u⟩ := x
          have HB : Hid (res = uponW (acc ++ [⟨xk, xn, xt⟩]) (rowG m u)) := HT.out.trans (uponW_ok hv)
          have hul : u.length + 1 ≤ r.length := by
            obtain ⟨k, e1, e2, e3⟩ := valW_rest hv
            rw [e1, List.length_drop]
            omega
          rw [hv] at V
          simp only [] at V
          clear HT hv HRd
          go_wp2_with (first
            | (go_at_call 39; with_reducible refine V.mono ?_; rintro e w3 ⟨O3, rfl, R3⟩; have HO3 := hid O3; have HR3 := hid R3; clear O3 R3)
            | (at_builtin; refine appV w3 w.heap.size _ _ _ _ acc xk xn xt rfl rfl rfl rfl rfl (HO.out.only HO3.out hrb) (by omega) (Nat.le_trans hsz HO3.out.size) ?_; intro v' w' O' B' S'; have HO4 := hid O'; have HB4 := hid B'; clear O' B' S')
            | fail)
          go_roundw
          case rel => exact ⟨acc ++ [⟨xk, xn, xt⟩], u, m, by go_num, by omega, HO4.out, HR3.out.below HB4.out hrb, HB.out, by simp; omega, (HN.out.trans HO3.out).then HB4.out⟩
          case measure => simp [RowKit.intOf]

theorem catch_idle (p : Addr) (w : World) :
    CallsD Try.prog 37 #[.pointer (some p)] .returning w fun e u' w' => e = .returned (.tuple #[]) ∧ u' = .returning ∧ w' = w := by
  refine callsD_of_wpS Try.func37 rfl fun c₀ cs hu => ?_
  apply wpS_seq
  apply wpS_region
  simp [wpOpsS, go_sem, recoverD, hu, Try.ntmps37, Exit.thenS]
  refine wpS_of_wp ?_
  change Code.wp _ _ _ { tmps := #[.pointer (some p), .nilIface, .nilIface, undef, undef, undef, undef], defers := [] } w
  go_wp2
  cases c₀
  simp_all [bodyPostS, results, Try.results37]

theorem assert_errno (v : Value) (w : World) : (Instr.typeAssert (.iface 25 v) 20 25 false).run Try.prog w = .ok v w := by kernel_rfl

theorem catch_panicking (b : Nat) (n : Int) (v : Value) (w : World) (c0 : w.cell? ⟨b, 0, none⟩ = some v) (f0 : w.frozen? ⟨b, 0, none⟩ = false) :
    CallsD Try.prog 37 #[.pointer (some ⟨b, 0, none⟩)] (.panicking (thr n)) w fun e u' w' =>
      e = .returned (.tuple #[]) ∧ u' = .panicking [{ v := .iface 25 (.int .i64 n), recovered := true }] ∧ w' = w.setCell ⟨b, 0, none⟩ (.int .i64 n) := by
  refine callsD_of_wpS Try.func37 rfl fun c₀ cs hu => ?_
  apply wpS_seq
  apply wpS_region
  unfold thr at hu
  simp [wpOpsS, go_sem, recoverD, hu, Try.ntmps37, Exit.thenS]
  refine wpS_of_wp ?_
  change Code.wp _ _ _ { tmps := #[.pointer (some ⟨b, 0, none⟩), .iface 25 (.int .i64 n), .iface 25 (.int .i64 n), undef, undef, undef, undef], defers := [] } w
  have hta := assert_errno
  go_wp2
  all_goals
    show bodyPostS _ _ _ _ _ Exit.normal _ _ _
    simp [bodyPostS, results, Try.results37]

/-- What the work of a reading ends with. -/
def workEnd (x : Except Int (List Val)) (w : World) (e : Ending) (w' : World) : Prop :=
  Below w.heap.size w w' ∧ match x with
    | .ok vs => ∃ v, e = .returned v ∧ OwnV w' w.heap.size v vs
    | .error n => e = .panicked (thr n)
/-- What Decode answers. -/
def decEnd (x : Except Int (List Val)) (w : World) (e : Ending) (w' : World) : Prop :=
  Below w.heap.size w w' ∧ match x with
    | .ok vs => ∃ v, e = .returned (.tuple #[v, .int .i64 0]) ∧ OwnV w' w.heap.size v vs
    | .error n => e = .returned (.tuple #[.slice none 0 0, .int .i64 n])

set_option maxHeartbeats 1000000 in
theorem caught_any (g : FuncId) (caps : Array Value) (x : Except Int (List Val)) (w : World) (hg : ∀ w, (callFunc g caps).run Try.prog w = .ok (.enter g caps) w)
    (h : ∀ w0, Below w.heap.size w w0 → Calls Try.prog g caps w0 (workEnd x w0)) :
    Calls Try.prog 24 #[.func (.func g) #[] caps] w (decEnd x w) := by
  have hmf : ∀ (fn : Fn) (first cap : Array Value) (w : World), (Instr.makeFunc fn first cap).run Try.prog w = .ok (.func fn first cap) w := fun _ _ _ _ => rfl
  have H : Hid (∀ w0, Below w.heap.size w w0 → Calls Try.prog g caps w0 (workEnd x w0)) := h
  clear h
  go_enter_defers Try.func24, Try.ntmps24
  go_wp2
  refine (H.out _ (by go_grown)).mono ?_
  rintro e w1 ⟨b1, he⟩
  have c0 : w1.cell? ⟨w.heap.size, 0, none⟩ = some (.int .i64 0) := below_cell b1 (by go_simp)
  have f0 : w1.frozen? ⟨w.heap.size, 0, none⟩ = false := by
    rw [b1.frozen (by simp)]
    go_simp
  have B : Below w.heap.size w w1 := ((Below.refl w.heap.size w).alloc (Nat.le_refl _) _).trans (b1.mono (by simp))
  cases x with
  | ok vs =>
    obtain ⟨v, rfl, O⟩ := he
    obtain ⟨pv, cv, rfl, _, _, _⟩ := ownV_slice O
    have HO : Hid (OwnV w1 (w.heap.size + 1) (.slice pv vs.length cv) vs) := by
      have : (w.alloc (.cells #[.int .i64 0] 25)).heap.size = w.heap.size + 1 := by simp
      rw [← this]
      exact O
    clear O
    go_wp2
    refine leaves_cons (f := 37) (args := #[.pointer (some ⟨w.heap.size, 0, none⟩)]) (by simp) (by simp [go_sem]) ?_
    refine (catch_idle _ _).mono ?_
    rintro e u' w'' ⟨rfl, rfl, rfl⟩
    simp [Leaves, settle, results, Try.results24, go_sem, c0]
    refine ⟨by go_grown, _, rfl, ?_⟩
    refine ownV_mono (b := w.heap.size + 1) ?_ (by omega)
    exact ownsRow_setCell_below HO.out (show w.heap.size < w.heap.size + 1 by omega) _
  | error n =>
    obtain rfl : e = .panicked (thr n) := he
    go_wp2
    refine leaves_cons (f := 37) (args := #[.pointer (some ⟨w.heap.size, 0, none⟩)]) (by simp) (by simp [go_sem]) ?_
    refine (catch_panicking w.heap.size n _ _ c0 f0).mono ?_
    rintro e u' w2 ⟨rfl, rfl, rfl⟩
    simp [Leaves, settle, results, Try.results24, go_sem, c0]
    exact ⟨B.setCell (p := ⟨w.heap.size, 0, none⟩) (Nat.le_refl _) _, rfl⟩


theorem enters_decW1 (args : Array Value) (w : World) : (callFunc 25 args).run Try.prog w = .ok (.enter 25 args) w := by
  first | (simp [go_sem]; done) | kernel_rfl

set_option maxHeartbeats 1000000 in
theorem decW1_any (b : Nat) (p : Option Addr) (l : List UInt8) (c : Nat) (w : World) (c0 : w.cell? ⟨b, 0, none⟩ = some (.slice p l.length c)) (hc : l.length ≤ c)
    (rB : Byts w p l) (hl : l.length * 32 ≤ 140737488351232) :
    Calls Try.prog 25 #[.pointer (some ⟨b, 0, none⟩)] w (workEnd (closeW (readW l)) w) := by
  have B0 : Below w.heap.size w (w.alloc (.cells #[.slice p l.length c] 50)) := (Below.refl _ _).alloc (Nat.le_refl _) _
  have R : Rk (w.alloc (.cells #[.slice p l.length c] 50)) w.heap.size l := by
    refine ⟨p, c, by go_simp, by go_simp, hc, ?_⟩
    rcases rB with h | ⟨b1, off, hp, hcells⟩
    · exact Or.inl h
    · by_cases hn : l = []
      · exact Or.inl hn
      · have h0 := hcells 0 (List.length_pos_iff.2 hn)
        exact Or.inr ⟨b1, off, hp, cell_lt h0, fun i hi => below_cell B0 (hcells i hi)⟩
  have W := krow_any w.heap.size l _ R hl
  have c0' := below_cell B0 c0
  unfold rowEndW at W
  have HB := hid B0
  clear R rB B0
  cases hx : readW l with
  | error n =>
    rw [hx] at W
    simp only [] at W
    go_enter Try.func25, Try.ntmps25
    go_wp2_with (go_at_call 26; with_reducible refine W.mono ?_; rintro e w2 ⟨O2, rfl⟩)
    exact ⟨rfl, HB.out.trans (O2.below (by simp)), rfl⟩
  | ok x =>
    obtain ⟨vs, q⟩ := x
    rw [hx] at W
    simp only [] at W
    by_cases hq : q = []
    · subst hq
      have E := fun w2 (R2 : Rk w2 w.heap.size []) => kend_none w.heap.size w2 R2
      have hcl : Hid (closeW (.ok (vs, [])) = .ok vs) := rfl
      go_enter Try.func25, Try.ntmps25
      go_wp2_with (first
        | (go_at_call 26; with_reducible refine W.mono ?_; rintro e w2 ⟨O2, v, rfl, V2, R2⟩; have E2 := E w2 R2; have HO2 := hid O2; have HV2 := hid V2; clear O2 V2 R2)
        | (go_at_call 27; with_reducible refine E2.mono ?_; rintro e w3 ⟨rfl, hw⟩; subst hw)
        | fail)
      go_ret
      exact ⟨HB.out.trans (HO2.out.below (by simp)), v, rfl, ownV_mono HV2.out (by simp)⟩
    · have E := fun w2 (R2 : Rk w2 w.heap.size q) => kend_some w.heap.size q w2 R2 hq
      have hcl : closeW (.ok (vs, q)) = .error 6 := by simp only [closeW]; rw [if_neg hq]
      rw [hcl]
      go_enter Try.func25, Try.ntmps25
      go_wp2_with (first
        | (go_at_call 26; with_reducible refine W.mono ?_; rintro e w2 ⟨O2, v, rfl, V2, R2⟩; have E2 := E w2 R2; have HO2 := hid O2; have HV2 := hid V2; clear O2 V2 R2)
        | (go_at_call 27; with_reducible refine E2.mono ?_; rintro e w3 ⟨rfl, hw⟩; subst hw)
        | fail)
      exact ⟨rfl, HB.out.trans (HO2.out.below (by simp)), rfl⟩

set_option maxHeartbeats 1000000 in
theorem decodeW_any (p : Option Addr) (l : List UInt8) (c : Nat) (w : World) (hc : l.length ≤ c) (rB : Byts w p l) (hl : l.length ≤ 140737488351232) :
    Calls Try.prog 15 #[.slice p l.length c] w (decEnd (decW l) w) := by
  have hmf : ∀ (fn : Fn) (first cap : Array Value) (w : World), (Instr.makeFunc fn first cap).run Try.prog w = .ok (.func fn first cap) w := fun _ _ _ _ => rfl
  have B0 : Below w.heap.size w (w.alloc (.cells #[.slice p l.length c] 24)) := (Below.refl _ _).alloc (Nat.le_refl _) _
  by_cases hbig : 2048 < l.length
  · have hx : decW l = .error 8 := if_pos hbig
    rw [hx]
    clear hx rB
    have HB := hid B0
    clear B0
    go_enter Try.func15, Try.ntmps15
    go_wp2
    go_returns
    exact ⟨HB.out, rfl⟩
  · have hx : decW l = closeW (readW l) := if_neg hbig
    rw [hx]
    clear hx
    have C := caught_any 25 #[.pointer (some ⟨w.heap.size, 0, none⟩)] (closeW (readW l)) (w.alloc (.cells #[.slice p l.length c] 24)) (enters_decW1 _) (fun w0 b0 =>
      decW1_any w.heap.size p l c w0 (below_cell b0 (by go_simp)) hc ((rB.below B0).below b0) (by omega))
    have HB := hid B0
    have hsz := B0.size
    clear B0 rB
    unfold decEnd at C
    cases hx : closeW (readW l) with
    | ok vs =>
      rw [hx] at C
      simp only [] at C
      go_enter Try.func15, Try.ntmps15
      go_wp2_with (go_at_call 24; with_reducible refine C.mono ?_; rintro e w2 ⟨B2, v, rfl, V2⟩)
      go_returns
      exact ⟨HB.out.trans (B2.mono hsz), v, rfl, ownV_mono V2 hsz⟩
    | error n =>
      rw [hx] at C
      simp only [] at C
      go_enter Try.func15, Try.ntmps15
      go_wp2_with (go_at_call 24; with_reducible refine C.mono ?_; rintro e w2 ⟨B2, rfl⟩)
      go_returns
      exact ⟨HB.out.trans (B2.mono hsz), rfl⟩
end Go.Proofs.Ytaoeonbhlpnjiaa
