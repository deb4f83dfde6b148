/- What is gathered does not hang on the order, as plain mathematics; rows that are written into. No conditions. -/
import Derived.Test.YtfcecblppdgcbaaAgPartsWalk
namespace Go.Proofs.Ytfcecblppdgcbaa
open Go.RowKit Go.Lib Go.Sort
set_option linter.unusedVariables false
set_option linter.unusedSimpArgs false
set_option maxRecDepth 20000

def sumI : List Val → Int
  | [] => 0
  | x :: r => x.n + sumI r
theorem sumI_append : ∀ (a b : List Val), sumI (a ++ b) = sumI a + sumI b
  | [], b => by simp [sumI]
  | x :: a, b => by simp only [List.cons_append, sumI, sumI_append a b]; omega
theorem sumI_perm {a b : List Val} (h : List.Perm a b) : sumI a = sumI b := by
  induction h with
  | nil => rfl
  | cons x _ ih => simp only [sumI, ih]
  | swap x y l => simp only [sumI]; omega
  | trans _ _ h1 h2 => exact h1.trans h2
def sumS (M : List Val) : Val := if M = [] then nullV else numV (sumI M)
theorem bin11_v {a b : Val} (ha : a.k = 2) (hb : b.k ≠ 0) (h : (binV 11 a b).e = 0) : (binV 11 a b).v = numV (a.n + b.n) := by
  unfold binV at *
  rw [if_neg (by omega)] at *
  split at h
  · exact absurd h (by decide)
  · rename_i hf
    rw [if_neg hf, if_neg (by omega), if_neg (by omega), if_neg (by omega), if_neg (by omega), if_neg (by omega)] at *
    unfold sumV over at *
    rw [if_pos rfl] at *
    split at h
    · rename_i hi
      rw [if_pos hi]
    · exact absurd h (by decide)
theorem add_sumS {M : List Val} {v : Val} (h : (addV 2 false (sumS M) v).e = 0) : (addV 2 false (sumS M) v).v = sumS (M ++ nn [v]) := by
  by_cases hk : v.k = 0
  · have h1 : nn [v] = [] := by rw [nn_cons, if_pos hk]; rfl
    rw [h1, List.append_nil]
    unfold addV
    rw [if_pos ⟨hk, rfl⟩]
  · have h1 : nn [v] = [v] := by rw [nn_cons, if_neg hk]; rfl
    have h2 : addV 2 false (sumS M) v = takV 2 (sumS M) v := by unfold addV; rw [if_neg (fun q => hk q.1)]
    rw [h2] at h ⊢
    have hx : (if (sumS M).k = 0 then numV 0 else sumS M) = numV (sumI M) := by
      unfold sumS
      by_cases hM : M = []
      · subst hM; simp [nullV, sumI]
      · rw [if_neg hM]; simp [numV]
    have ht : takV 2 (sumS M) v = if (binV 11 (numV (sumI M)) v).e = 0 then binV 11 (numV (sumI M)) v else ⟨sumS M, (binV 11 (numV (sumI M)) v).e⟩ := by
      unfold takV
      rw [if_neg (by decide), if_pos rfl, hx]
    rw [ht] at h ⊢
    by_cases he : (binV 11 (numV (sumI M)) v).e = 0
    · rw [if_pos he, bin11_v rfl hk he, h1]
      have : sumS (M ++ [v]) = numV (sumI (M ++ [v])) := by unfold sumS; rw [if_neg (by simp)]
      rw [this, sumI_append]
      simp [sumI, numV]
    · rw [if_neg he] at h
      exact absurd h he
theorem runA_sum : ∀ (xs M : List Val) (h : Val), runA 2 false (sumS M) xs = some h → h = sumS (M ++ nn xs)
  | [], M, h, e => by
    simp only [runA, Option.some.injEq] at e
    rw [← e]; simp [nn]
  | v :: r, M, h, e => by
    rw [runA] at e
    by_cases he : (addV 2 false (sumS M) v).e = 0
    · rw [if_pos he, add_sumS he] at e
      have := runA_sum r _ h e
      rw [this, List.append_assoc, ← nn_append]; rfl
    · rw [if_neg he] at e; cases e
/-- What is gathered of a list and of the same in another order is the same, if none is refused. -/
theorem runA_perm {op : Int} (ho : 1 ≤ op ∧ op ≤ 4) {xs ys : List Val} (hp : List.Perm ys xs) (hr : ∀ x ∈ xs, rightV x = true) {a b : Val} (ha : runA op false (zeroV op) xs = some a) (hb : runA op false (zeroV op) ys = some b) : a = b := by
  have hn : List.Perm (nn ys) (nn xs) := hp.filter _
  by_cases h2 : op = 2
  · subst h2
    have h1 := runA_sum xs [] a ha
    have h3 := runA_sum ys [] b hb
    rw [h1, h3, List.nil_append, List.nil_append]
    unfold sumS
    by_cases hE : nn xs = []
    · have hE2 : nn ys = [] := by rw [hE] at hn; exact List.Perm.eq_nil hn
      rw [if_pos hE, if_pos hE2]
    · have hE2 : ¬ nn ys = [] := fun q => hE (by rw [q] at hn; exact List.Perm.eq_nil hn.symm)
      rw [if_neg hE, if_neg hE2, sumI_perm hn]
  rw [← gat_nil, runA_gat ho h2 xs [] (fun _ x hx => by cases hx)] at ha
  rw [← gat_nil, runA_gat ho h2 ys [] (fun _ x hx => by cases hx)] at hb
  simp only [Option.some.injEq, List.nil_append] at ha hb
  rw [← ha, ← hb]
  by_cases h1 : op = 1
  · subst h1
    show numV (nn xs).length = numV (nn ys).length
    rw [hn.length_eq]
  by_cases hE : nn xs = []
  · have hE2 : nn ys = [] := by rw [hE] at hn; exact List.Perm.eq_nil hn
    rw [hE, hE2]
  have hE2 : nn ys ≠ [] := fun q => hE (by rw [q] at hn; exact List.Perm.eq_nil hn.symm)
  rw [gat_best h1 h2 hE, gat_best h1 h2 hE2]
  have hr2 : ∀ x ∈ nn xs, rightV x = true := fun x hx => hr x (nn_mem.1 hx).1
  by_cases h3 : op = 3
  · subst h3
    exact best3_is hr2 (hn.mem_iff.1 (best_or 3 _ hE2)) (fun x hx => best3 (hn.mem_iff.2 hx))
  · obtain rfl : op = 4 := by omega
    exact best4_is hr2 (hn.mem_iff.1 (best_or 4 _ hE2)) (fun x hx => best4 (hn.mem_iff.2 hx))
theorem swap_perm (l : List Val) (a b : Nat) (ha : a < l.length) (hb : b < l.length) : List.Perm ((l.set a l[b]).set b l[a]) l := List.set_set_perm ha hb

/-- A row that may be written into. -/
def RowM (w : World) (g : Nat) (ms : List Val) : Prop := ∀ i (h : i < ms.length), w.cell? ⟨g, i * 3, none⟩ = some (.int .i64 ms[i].k) ∧ w.cell? ⟨g, i * 3 + 1, none⟩ = some (.int .i64 ms[i].n) ∧ w.cell? ⟨g, i * 3 + 2, none⟩ = some (.string ms[i].s) ∧
  w.frozen? ⟨g, i * 3, none⟩ = false ∧ w.frozen? ⟨g, i * 3 + 1, none⟩ = false ∧ w.frozen? ⟨g, i * 3 + 2, none⟩ = false
theorem RowM.row {w : World} {g : Nat} {ms : List Val} (h : RowM w g ms) : Row w (some ⟨g, 0, none⟩) ms := Or.inr ⟨g, 0, rfl, fun i hi => by
  obtain ⟨a, b, c, _⟩ := h i hi
  simp only [Nat.zero_add]
  exact ⟨a, b, c⟩⟩
theorem RowM.below {w w' : World} {g : Nat} {ms : List Val} (h : RowM w g ms) (B : Below w.heap.size w w') : RowM w' g ms := fun i hi => by
  obtain ⟨a, b, c, d, e, f⟩ := h i hi
  exact ⟨below_cell B a, below_cell B b, below_cell B c, by rw [B.frozen (p := ⟨g, i * 3, none⟩) (cell_lt a)]; exact d, by rw [B.frozen (p := ⟨g, i * 3 + 1, none⟩) (cell_lt b)]; exact e, by rw [B.frozen (p := ⟨g, i * 3 + 2, none⟩) (cell_lt c)]; exact f⟩
theorem RowM.of {w : World} {base : Nat} {v : Value} {ms : List Val} (o : OwnV w base v ms) (hne : ms ≠ []) : ∃ g cap, v = .slice (some ⟨g, 0, none⟩) ms.length cap ∧ base ≤ g ∧ RowM w g ms := by
  have o' := o
  obtain ⟨_, h2⟩ := o
  rcases h2 with ⟨_, h0⟩ | ⟨g, cap, cur, hv, hg, hh, _⟩
  · exact absurd (List.length_eq_zero_iff.1 h0) hne
  · refine ⟨g, cap, hv, hg, fun i hi => ?_⟩
    obtain ⟨p, c, hv', r, _, _⟩ := ownV_slice o'
    rw [hv] at hv'
    simp only [Value.slice.injEq] at hv'
    obtain ⟨b, off, hp, c0, c1, c2⟩ := r.at hi
    rw [← hv'.1] at hp
    simp only [Option.some.injEq, Addr.mk.injEq] at hp
    obtain ⟨rfl, rfl, _⟩ := hp
    simp only [Nat.zero_add] at c0 c1 c2
    refine ⟨c0, c1, c2, ?_, ?_, ?_⟩ <;> simp [World.frozen?, hh]
theorem RowM.set {w : World} {g : Nat} {ms : List Val} (h : RowM w g ms) (i : Nat) (hi : i < ms.length) (x : Val) : RowM (((w.setCell ⟨g, i * 3, none⟩ (.int .i64 x.k)).setCell ⟨g, i * 3 + 1, none⟩ (.int .i64 x.n)).setCell ⟨g, i * 3 + 2, none⟩ (.string x.s)) g (ms.set i x) := by
  intro j hj
  rw [List.length_set] at hj
  obtain ⟨a, b, c, d, e, f⟩ := h j hj
  obtain ⟨a', b', c', d', e', f'⟩ := h i hi
  by_cases hij : i = j
  · subst hij
    simp only [List.getElem_set_self]
    refine ⟨?_, ?_, ?_, ?_, ?_, ?_⟩ <;> simp [go_sem, a, b, c, d, e, f]
  · have n1 : i * 3 ≠ j * 3 := by omega
    have n2 : i * 3 + 1 ≠ j * 3 := by omega
    have n3 : i * 3 + 2 ≠ j * 3 := by omega
    have n4 : i * 3 ≠ j * 3 + 1 := by omega
    have n6 : i * 3 + 2 ≠ j * 3 + 1 := by omega
    have n7 : i * 3 ≠ j * 3 + 2 := by omega
    have n8 : i * 3 + 1 ≠ j * 3 + 2 := by omega
    rw [List.getElem_set_ne hij]
    refine ⟨?_, ?_, ?_, ?_, ?_, ?_⟩ <;> simp [go_sem, a, b, c, d, e, f, n1, n2, n3, n4, n6, n7, n8, hij, Ne.symm hij]
end Go.Proofs.Ytfcecblppdgcbaa
