/- What the document's Print answers: a text, always the same. Conditions: the expression lies in memory, within the reach. Proved: whatever EvalDecides is called with, of bulk at most 1048576, it returns true and leaves its arguments as they were: a row's expression decides the same, whatever says it. Condition: what it reads is of bulk at most 1048576. The library's variables start as the program's text lays them (the card ties them; it speaks of the pruned copy of the project). -/
import Derived.Test.YtblkhlhhlalbkaaGreatDoorPC
import Derived.Test.YtblkhlhhlalbkaaGreatDoorEvPrsD
import Derived.Test.YtblkhlhhlalbkaaGreatDoorEvPrsE
import Derived.Test.YtblkhlhhlalbkaaGreatDoorEvPrsF
import Derived.Test.YtblkhlhhlalbkaaGreatDoorEvPrsH
import Derived.Test.YtblkhlhhlalbkaaGreatDoorEvPrsI
import Derived.Test.YtblkhlhhlalbkaaGreatDoorEvPrsJ
import Derived.Test.YtblkhlhhlalbkaaGreatDoorED
import Derived.Test.YtblkhlhhlalbkaaGreatDoorCards
import Derived.Test.YtblkhlhhlalbkaaGreatDoorTie
import Derived.Test.YtblkhlhhlalbkaaGreatDoorEO
import Derived.SizedLaws
import Derived.OpenShut
import Derived.ChangeMaps5
import Derived.JoinedCond
import Derived.SevenTiedAt
namespace Go.Proofs.YtblkhlhhlalbkaaGreatDoor
open Go.RowKit Go.Lib Go.Sort
set_option linter.unusedVariables false
set_option linter.unusedSimpArgs false
set_option maxRecDepth 20000

theorem szJ_one {S : Nat → ByteArray} {n i : Nat} (h : i < n) : (S i).size + 2 ≤ szJ S n := by
  have := szJ_le S (Nat.succ_le_of_lt h)
  simp only [szJ] at this
  omega
theorem agg_size (nm : ByteArray) (k : Nat) (hk : nm.size = k) {xs : List Gx} (js : ByteArray) (z : Nat) (hj : js.size ≤ z) (h8 : k ≤ 8 := by decide) :
    (if xs.length = 0 then nm ++ (⟨#[40, 42, 41]⟩ : ByteArray) else ((nm ++ (⟨#[40]⟩ : ByteArray)) ++ js) ++ (⟨#[41]⟩ : ByteArray)).size ≤ 8000000000 + z := by
  have z3 : (⟨#[40, 42, 41]⟩ : ByteArray).size = 3 := rfl
  split
  · rw [ByteArray.size_append, z3]; omega
  · simp only [ByteArray.size_append, sz40, sz41]; omega
theorem list_nil (p : Option Addr) (c : Nat) (W : World) :
    Calls Tryz.prog 37 #[.slice p ([] : List Gx).length c] W fun r w' => r = .returned (.string ⟨#[]⟩) ∧ Below W.heap.size W w' := by
  simp only [List.length_nil]
  go_enter Tryz.func37, Tryz.ntmps37
  go_wp2_with fail
  go_loopw [3, 4] (fun s i wr => s = .string ⟨#[]⟩ ∧ i = .int .i64 0 ∧ wr = W) (fun s i _ => 0)
  case atStart => exact ⟨rfl, rfl, rfl⟩
  case round =>
    obtain ⟨rfl, rfl, rfl⟩ := hrel
    go_wp2
    go_ret
    exact ⟨rfl, Below.refl _ _⟩
/-- One step: what Print answers, given what it answers of the operands. -/
theorem print_step (k op vk vn cc y : Int) (vs : ByteArray) (t n : List UInt8) (xs : List Gx) (p : Option Addr) (c : Nat) (w0 : World) (b off : Nat) (S : Nat → ByteArray)
    (hp : xs ≠ [] → p = some ⟨b, off, none⟩) (hE : xs ≠ [] → Elt w0 b off xs S) (hl : xs.length ≤ 1048576) (hz : szJ S xs.length ≤ 90000000000000000)
    (hvn : inR vn) (hvs : vs.size ≤ 2147483648) (ht : t.length ≤ 2147483648) (hn : n.length ≤ 2147483648) :
    ∃ s, s.size ≤ 8000000000 + szJ S xs.length ∧ PrOk w0 ⟨k, op, ⟨vk, vn, vs⟩, t, n, cc, y, xs⟩ p c s := by
  by_cases h0 : lvR k op xs.length = 0
  · exact ⟨⟨#[]⟩, Nat.zero_le _, prn_none k op vk vn cc y vs t n xs p c w0 h0⟩
  obtain ⟨q3, q7, q5, q6, q4, hk1, hk7⟩ := lvR_ok h0
  have LS : ∀ W', Below w0.heap.size w0 W' → Calls Tryz.prog 37 #[.slice p xs.length c] W' fun r w' => r = .returned (.string (if xs = [] then ⟨#[]⟩ else joinS S xs.length)) ∧ Below W'.heap.size W' w' := by
    intro W' hW
    by_cases hx : xs = []
    · rw [if_pos hx, hx]
      exact list_nil p c W'
    · rw [if_neg hx, hp hx]
      exact list_ok (hE hx) hl (by omega) c W' hW
  have hj : (if xs = [] then (⟨#[]⟩ : ByteArray) else joinS S xs.length).size ≤ szJ S xs.length := by
    split
    · exact Nat.zero_le _
    · exact joinS_size S _
  have hj2 : (if xs = [] then (⟨#[]⟩ : ByteArray) else joinS S xs.length).size ≤ 100000000000000000 := by omega
  have hk : k = 1 ∨ k = 2 ∨ k = 3 ∨ k = 4 ∨ k = 5 ∨ k = 6 ∨ k = 7 := by omega
  rcases hk with rfl | rfl | rfl | rfl | rfl | rfl | rfl
  · refine ⟨_, ?_, prn_lit op vk vn cc y vs t n xs p c w0 h0 hvs hvn⟩
    have h := litV_any (a := ⟨vk, vn, vs⟩) hvn
    rw [toL_size]
    simp only [] at h
    omega
  · refine ⟨_, ?_, prn_col op vk vn cc y vs t n xs p c w0 h0 ht hn⟩
    have z1 := toL_size t
    have z2 := toL_size n
    split
    · omega
    · rw [ByteArray.size_append, ByteArray.size_append, sz46]; omega
  · obtain ⟨h1, ho1, ho2⟩ := q3 rfl
    have hx : xs ≠ [] := by rintro rfl; cases h1
    have H0 : 0 < xs.length := by omega
    obtain ⟨sg, hg, SG⟩ := sign_ex op (by omega)
    have hs0 := szJ_one (S := S) H0
    refine ⟨_, ?_, prn_un op vk vn cc y vs t n xs p c w0 h0 b off S (hp hx) (hE hx) h1 sg hg SG (by omega) H0⟩
    have ho := opdS_size (xs[0]'H0) (S 0) (lvR 3 op xs.length)
    rw [ByteArray.size_append, ByteArray.size_append, sz32]
    omega
  · obtain ⟨h2, ho1, ho2⟩ := q4 rfl
    have hx : xs ≠ [] := by rintro rfl; cases h2
    have H0 : 0 < xs.length := by omega
    have H1 : 1 < xs.length := by omega
    obtain ⟨sg, hg, SG⟩ := sign_ex op (by omega)
    have hs0 := szJ_one (S := S) H0
    have hs1 : szJ S xs.length = (S 0).size + (S 1).size + 4 := by rw [h2]; simp only [szJ]; omega
    refine ⟨_, ?_, prn_bin op vk vn cc y vs t n xs p c w0 h0 b off S (hp hx) (hE hx) sg hg SG (by omega) (by omega) H0 H1⟩
    have hoa := opdS_size (xs[0]'H0) (S 0) (if lvR 4 op xs.length = 4 then 5 else lvR 4 op xs.length)
    have hob := opdS_size (xs[1]'H1) (S 1) (lvR 4 op xs.length + 1)
    simp only [ByteArray.size_append, sz32]
    omega
  · obtain ⟨ho1, ho2⟩ := q5 rfl
    obtain rfl | rfl | rfl | rfl | rfl | rfl : op = 1 ∨ op = 2 ∨ op = 3 ∨ op = 4 ∨ op = 5 ∨ op = 6 := by omega
    · refine ⟨_, ?_, prn_call1 vk vn cc y vs t n xs p c w0 h0 _ hj2 LS⟩
      simp only [ByteArray.size_append]
      show 6 + 1 + _ + 1 ≤ _
      omega
    · refine ⟨_, ?_, prn_call2 vk vn cc y vs t n xs p c w0 h0 _ hj2 LS⟩
      simp only [ByteArray.size_append]
      show 3 + 1 + _ + 1 ≤ _
      omega
    · refine ⟨_, ?_, prn_call3 vk vn cc y vs t n xs p c w0 h0 _ hj2 LS⟩
      simp only [ByteArray.size_append]
      show 5 + 1 + _ + 1 ≤ _
      omega
    · refine ⟨_, ?_, prn_call4 vk vn cc y vs t n xs p c w0 h0 _ hj2 LS⟩
      simp only [ByteArray.size_append]
      show 5 + 1 + _ + 1 ≤ _
      omega
    · refine ⟨_, ?_, prn_call5 vk vn cc y vs t n xs p c w0 h0 _ hj2 LS⟩
      simp only [ByteArray.size_append]
      show 6 + 1 + _ + 1 ≤ _
      omega
    · refine ⟨_, ?_, prn_call6 vk vn cc y vs t n xs p c w0 h0 _ hj2 LS⟩
      simp only [ByteArray.size_append]
      show 8 + 1 + _ + 1 ≤ _
      omega
  · obtain ⟨ho1, ho2⟩ := q6 rfl
    obtain rfl | rfl | rfl | rfl : op = 1 ∨ op = 2 ∨ op = 3 ∨ op = 4 := by omega
    · refine ⟨_, ?_, prn_agg1 vk vn cc y vs t n xs p c w0 h0 _ hj2 LS⟩
      exact agg_size _ 5 rfl _ _ hj
    · refine ⟨_, ?_, prn_agg2 vk vn cc y vs t n xs p c w0 h0 _ hj2 LS⟩
      exact agg_size _ 3 rfl _ _ hj
    · refine ⟨_, ?_, prn_agg3 vk vn cc y vs t n xs p c w0 h0 _ hj2 LS⟩
      exact agg_size _ 3 rfl _ _ hj
    · refine ⟨_, ?_, prn_agg4 vk vn cc y vs t n xs p c w0 h0 _ hj2 LS⟩
      exact agg_size _ 3 rfl _ _ hj
  · have h1 := q7 rfl
    have hx : xs ≠ [] := by rintro rfl; cases h1
    have H0 : 0 < xs.length := by omega
    have hs0 := szJ_one (S := S) H0
    refine ⟨_, ?_, prn_null op vk vn cc y vs t n xs p c w0 h0 b off S (hp hx) (hE hx) h1 (by omega) H0⟩
    have ho := opdS_size (xs[0]'H0) (S 0) 5
    split
    · rw [ByteArray.size_append]
      show _ + 12 ≤ _
      omega
    · rw [ByteArray.size_append]
      show _ + 8 ≤ _
      omega
theorem bd_base {m : Nat} {e : Gx} (h : BdN m e) : BdV e.v ∧ e.t.length ≤ 2147483648 ∧ e.n.length ≤ 2147483648 := by
  cases m with
  | zero => exact h
  | succ m => exact h.1
theorem szJ_sum (S : Nat → ByteArray) (f : Gx → Nat) : ∀ (xs : List Gx), (∀ i (h : i < xs.length), (S i).size + 2 ≤ f xs[i] * 8589934592) → szJ S xs.length ≤ (xs.map f).sum * 8589934592 := by
  intro xs
  suffices H : ∀ k (hk : k ≤ xs.length), (∀ i (h : i < xs.length), (S i).size + 2 ≤ f xs[i] * 8589934592) → szJ S k ≤ ((xs.take k).map f).sum * 8589934592 by
    intro h
    have := H xs.length (Nat.le_refl _) h
    rwa [List.take_length] at this
  intro k
  induction k with
  | zero => intro _ _; exact Nat.zero_le _
  | succ k ih =>
    intro hk h
    have h1 := ih (by omega) h
    have h2 := h k (by omega)
    rw [List.take_succ_eq_append_getElem (by omega), List.map_append, List.sum_append]
    simp only [szJ, List.map_cons, List.map_nil, List.sum_cons, List.sum_nil, Nat.add_zero]
    rw [Nat.add_mul]
    omega
theorem le_sum_mem {x : Nat} : ∀ {l : List Nat}, x ∈ l → x ≤ l.sum
  | [], h => by cases h
  | y :: l, h => by
    simp only [List.sum_cons]
    rcases List.mem_cons.1 h with rfl | h
    · omega
    · have := le_sum_mem h
      omega
/-- Print answers a text, always the same. -/
theorem print_ex : ∀ (m : Nat) (e : Gx) (p : Option Addr) (c : Nat) (w0 : World), GAt w0 m e p → BdN m e → szN m e ≤ 1048576 → ∃ s, s.size + 2 ≤ szN m e * 8589934592 ∧ PrOk w0 e p c s
  | 0, e, p, c, w0, hg, hb, hz => by
    obtain ⟨bv, bt, bn⟩ := bd_base hb
    obtain ⟨k, op, ⟨vk, vn, vs⟩, t, n, cc, y, xs⟩ := e
    have hx : xs = [] := hg
    subst hx
    obtain ⟨s, h1, h2⟩ := print_step k op vk vn cc y vs t n [] p c w0 0 0 (fun _ => ⟨#[]⟩) (fun h => absurd rfl h) (fun h => absurd rfl h) (by decide) (by decide) bv.1 bv.2 bt bn
    refine ⟨s, ?_, h2⟩
    have : szJ (fun _ => (⟨#[]⟩ : ByteArray)) ([] : List Gx).length = 0 := rfl
    simp only [szN]
    omega
  | m + 1, e, p, c, w0, hg, hb, hz => by
    obtain ⟨bv, bt, bn⟩ := bd_base hb
    have hl := hg.1
    have hsum : (e.xs.map (szN m)).sum + 1 = szN (m + 1) e := by simp only [szN]; omega
    have hone : ∀ x ∈ e.xs, szN m x ≤ 1048576 := fun x hx => by
      have := le_sum_mem (List.mem_map_of_mem (f := szN m) hx)
      omega
    rcases hg.2 with hx | ⟨b, off, hp, hc⟩
    · obtain ⟨k, op, ⟨vk, vn, vs⟩, t, n, cc, y, xs⟩ := e
      simp only [] at hx
      subst hx
      obtain ⟨s, h1, h2⟩ := print_step k op vk vn cc y vs t n [] p c w0 0 0 (fun _ => ⟨#[]⟩) (fun h => absurd rfl h) (fun h => absurd rfl h) (by decide) (by decide) bv.1 bv.2 bt bn
      refine ⟨s, ?_, h2⟩
      have : szJ (fun _ => (⟨#[]⟩ : ByteArray)) ([] : List Gx).length = 0 := rfl
      simp only [szN, List.map_nil, List.sum_nil]
      omega
    · have hall : ∀ i, ∃ s : ByteArray, ∀ (h : i < e.xs.length), (s.size + 2 ≤ szN m e.xs[i] * 8589934592 ∧ ∃ q cq, GC w0 b (off + i * 10) e.xs[i] q cq ∧ PrOk w0 e.xs[i] q cq s) := by
        intro i
        by_cases h : i < e.xs.length
        · obtain ⟨q, cq, g, ga, _⟩ := hc i h
          obtain ⟨s, h1, h2⟩ := print_ex m e.xs[i] q cq w0 ga (hb.2 _ (List.getElem_mem h)) (hone _ (List.getElem_mem h))
          exact ⟨s, fun _ => ⟨h1, q, cq, g, h2⟩⟩
        · exact ⟨⟨#[]⟩, fun q => absurd q h⟩
      obtain ⟨S, hS⟩ : ∃ S : Nat → ByteArray, ∀ i (h : i < e.xs.length), ((S i).size + 2 ≤ szN m e.xs[i] * 8589934592 ∧ ∃ q cq, GC w0 b (off + i * 10) e.xs[i] q cq ∧ PrOk w0 e.xs[i] q cq (S i)) := ⟨fun i => Classical.choose (hall i), fun i => Classical.choose_spec (hall i)⟩
      have hj := szJ_sum S (szN m) e.xs (fun i h => (hS i h).1)
      obtain ⟨k, op, ⟨vk, vn, vs⟩, t, n, cc, y, xs⟩ := e
      simp only [] at *
      obtain ⟨s, h1, h2⟩ := print_step k op vk vn cc y vs t n xs p c w0 b off S (fun _ => hp) (fun _ i h => (hS i h).2) hl (by omega) bv.1 bv.2 bt bn
      exact ⟨s, by rw [← hsum, Nat.add_mul]; omega, h2⟩
end Go.Proofs.YtblkhlhhlalbkaaGreatDoor
namespace Go.Proofs.YtblkhlhhlalbkaaGreatDoor
open Go.ChangeShapes Go.WideShapes Go.ChangeAt Go.RowKit
set_option linter.unusedVariables false
set_option maxRecDepth 20000

theorem evdec_contract (H : Type) (enc : TypeId × Value → H) (W : World) (base : Nat) (args : Array Value) (ds gs : List (DataW H)) (before : List MemPlace)
    (hval : ∀ (j : Nat) t v, Tryz.f6.params[j]? = some t → args[j]? = some v → Value.okWide Tryz.prog W .any base t v)
    (hW : DataW.Whole enc Tryz.prog Tryz.f6.params.toList Rows.evalDecidesSpec.vars false W args.toList ds gs before)
    (hk : Rows.uptoSmall H (ds ++ gs) = true)
    (hE : Ew W) :
    Calls Tryz.prog 6 args W fun e W' => ∃ v, e = .returned v ∧ Rows.evalDecidesSpec.post enc Tryz.prog Tryz.f6 false true false false W args v W' := by
  have hW' := hW
  obtain ⟨p, q, hA0, hV, rfl, hfz, hnd⟩ := hW
  have hA : DataW.TrodAll enc Tryz.prog W 0 (fun _ => true) true Tryz.f6.params.toList args.toList ds p := hA0
  rw [Tryz.params6] at hA hval
  obtain ⟨v0, vs0, d0, ds0, q0, qs0, hargs, rfl, rfl, h0, t0⟩ := trodAll_cons hA
  obtain ⟨v1, vs1, d1, ds1, q1, qs1, rfl, rfl, rfl, h1, t1⟩ := trodAll_cons t0
  obtain ⟨v2, vs2, d2, ds2, q2, qs2, rfl, rfl, rfl, h2, t2⟩ := trodAll_cons t1
  obtain ⟨rfl, rfl, rfl⟩ := trodAll_nil t2
  obtain rfl : args = #[v0, v1, v2] := by cases args; simp_all
  obtain ⟨rfl, rfl⟩ := trodVars_none hV
  have lt0 : ∀ x ∈ q0, x.block < W.heap.size := by obtain ⟨m, hm⟩ := h0; exact DataW.trod_lt m _ _ _ hm
  have lt1 : ∀ x ∈ q1, x.block < W.heap.size := by obtain ⟨m, hm⟩ := h1; exact DataW.trod_lt m _ _ _ hm
  have lt2 : ∀ x ∈ q2, x.block < W.heap.size := by obtain ⟨m, hm⟩ := h2; exact DataW.trod_lt m _ _ _ hm
  obtain ⟨m, e, pe, ce, rfl, ge, hce, bde, sze⟩ := open_expr (hval 0 26 v0 rfl rfl) h0 (small_at hk (j := 0) rfl)
  obtain ⟨pa, ca, a, rfl, ra, _, na, _, da⟩ := open_vals_each (hval 1 27 v1 rfl rfl) h1
  obtain ⟨a2, rfl, rfl, rfl, w2⟩ := open_int Tryz.underlying2 (hval 2 2 v2 rfl rfl) h2
  obtain ⟨la, ba⟩ := row_bd hk (j := 1) rfl da na
  have hn2 := bounds_i64 w2
  obtain ⟨s, _, hP⟩ := print_ex m e pe ce W ge bde sze
  clear hA0
  refine (decides_any16 m e pe pa ce ca a a2 s W hE ge hce bde sze ra la ba hn2 hP).mono fun e W' ⟨he, bel⟩ => ?_
  subst he
  exact ⟨_, rfl, _, _, _, [], _, [], hW', trodAll_mk1 (shut_bool Tryz.underlying4 _),
    (trodAll_cons_mk (Below.trod laidOut (by kernel_rfl) (of_decide_eq_true (by kernel_rfl)) h0 bel lt0) (trodAll_cons_mk (Below.trod laidOut (by kernel_rfl) (of_decide_eq_true (by kernel_rfl)) h1 bel lt1) (trodAll_cons_mk (Below.trod laidOut (by kernel_rfl) (of_decide_eq_true (by kernel_rfl)) h2 bel lt2) trodAll_mk0))), rfl, bel.frame _, fun h => by cases h⟩

set_option maxRecDepth 100000 in
theorem evdec_reads (os : Os) {H : Type} (enc : TypeId × Value → H) : ∃ places, DataW.whole enc Tryz.prog ((lxOf Tryz.prog (World.holding Tryz.prog os ⟨#[], #[], []⟩)).forCall (fun _ _ => 0) ⟨#[], #[.agg #[.int .i64 0, .int .i64 0, .int .i64 0, .int .i64 0, .string ByteArray.empty, .string ByteArray.empty, .string ByteArray.empty, .int .i64 0, .int .i64 0, .slice none 0 0], .slice none 0 0, .int .i64 0], []⟩).memory Tryz.f6.params.toList Rows.evalDecidesSpec.vars false #[Value.agg #[.int .i64 0, .int .i64 0, .int .i64 0, .int .i64 0, .string ByteArray.empty, .string ByteArray.empty, .string ByteArray.empty, .int .i64 0, .int .i64 0, .slice none 0 0], .slice none 0 0, .int .i64 0].toList 8 = some ([.agg [.lit (.int .i64 0), .lit (.int .i64 0), .agg [.lit (.int .i64 0), .lit (.int .i64 0), .lit (.string [])], .lit (.string []), .lit (.string []), .lit (.int .i64 0), .lit (.int .i64 0), .nil], .nil, .lit (.int .i64 0)], [], places) :=
  ⟨[], by kernel_rfl⟩

set_option maxRecDepth 100000 in
theorem evdec_lifted (os : Os) (started : os.Started) (H : Type) (enc : TypeId × Value → H) (F : Stop.Interp) :
    ReturnsInHanded {} Tryz.checked os 6 .any ((Rows.OpenSpec.upto Rows.evalDecidesSpec).preRow enc Tryz.prog Tryz.f6 Rows.evalDecidesUptoRow.domain false Rows.evalDecidesUptoRow.laid) (((Rows.OpenSpec.upto Rows.evalDecidesSpec).at F).post enc Tryz.prog Tryz.f6 false true false false) := by
  obtain ⟨places, hx⟩ := evdec_reads os enc
  refine returnsInHanded_of_row (C := Tryz.checked) (s := Rows.OpenSpec.upto Rows.evalDecidesSpec) own started (by kernel_rfl) Tryz.func6
    (lxWitness (enc := enc) (os := os) #[.agg #[.int .i64 0, .int .i64 0, .int .i64 0, .int .i64 0, .string ByteArray.empty, .string ByteArray.empty, .string ByteArray.empty, .int .i64 0, .int .i64 0, .slice none 0 0], .slice none 0 0, .int .i64 0] (by kernel_rfl)
      (OpenSpec.preRow_of_cond 8 hx (by kernel_rfl) (fun k hk => by cases hk; kernel_rfl) (by kernel_rfl) (lxMet os _))) ?_
  intro W base args ds gs before hval hW _ hcond hsz hL hsh _
  exact evdec_contract H enc W base args ds gs before hval hW (hcond _ rfl) (ew_of hL hsh)

theorem evdec_said : Rows.EvalDecidesUptoSaid :=
  OpenClaim.holds_of_cond 6 Tryz.f6 rfl rfl rfl rfl rfl rfl rfl ⟨rfl, rfl, rfl, rfl, rfl⟩ rfl rfl rfl rfl rfl (by kernel_rfl) Tryz.func6 (by kernel_rfl)
    (of_decide_eq_true (by kernel_rfl)) (by unfold Func.isWrapper; first | (rw [if_pos (by decide +kernel)]; kernel_rfl) | (rw [if_neg (by decide +kernel)]; exact ⟨rfl, rfl⟩))
    (fun os started H enc _ F => by rw [OpenClaim.pre_eq_preRow]; exact evdec_lifted os started H enc F)

theorem evdec_plain (f : FuncId) (fn : Func) (hf : Tryz.pinned.checked.prog.funcNamed "quarry/quarrylaw16.EvalDecides" = some f) (hfn : Tryz.pinned.checked.prog.funcs[f]? = some fn) :
    true = Tryz.pinned.checked.prog.looks [] ∧ ∀ (j : Nat) t, fn.params[j]? = some t → Tryz.pinned.checked.prog.wantsStandIn t = false := by
  obtain rfl : f = 6 := Option.some.inj ((show Tryz.prog.funcNamed "quarry/quarrylaw16.EvalDecides" = some 6 by kernel_rfl).symm.trans hf) |>.symm
  obtain rfl : fn = Tryz.f6 := (Option.some.inj (Tryz.func6.symm.trans hfn)).symm
  refine ⟨by kernel_rfl, fun j t ht => ?_⟩
  rw [Tryz.params6] at ht
  have hm : t ∈ [26, 27, 2] := by
    have := Array.mem_of_getElem? ht
    simp at this
    simp
    omega
  have hall : ([26, 27, 2].all fun u => !Tryz.prog.wantsStandIn u) = true := by kernel_rfl
  exact (show Tryz.prog.wantsStandIn t = false by simpa using List.all_eq_true.1 hall t hm)

/-- THE CARD. -/
theorem evalDecidesUpto_card : Rows.EvalDecidesUptoCardSaid :=
  Claim7.holds_tied_plain_at .later [] _ _ _ _ evdec_said (fun _ h => by cases h) (by kernel_rfl) (fun _ h => by cases h) evalDecidesUpto_row_tie rfl ⟨rfl, rfl⟩ (by kernel_rfl) rfl evdec_plain (by kernel_rfl)
#print axioms evalDecidesUpto_card
end Go.Proofs.YtblkhlhhlalbkaaGreatDoor
