/- Plain mathematics of EvalPart: a part that is known as what it is worth changes nothing, where there are no columns. No program is named here. No conditions. -/
import Derived.Test.YthnmicadlcmecaaGreatDoorEP
import Derived.Test.YthnmicadlcmecaaGreatDoorER
namespace Go.Proofs.YthnmicadlcmecaaGreatDoor
open Go.Lib
set_option linter.unusedVariables false
set_option maxRecDepth 20000

/-- What the operands are worth. -/
def rsN (M : Nat) (row : List Val) (kn : List (Gx × Val)) : Nat → Gx → List Ans
  | 0, e => []
  | m + 1, e => e.xs.map (evN M row kn m)
theorem ev_rs (M : Nat) (row : List Val) (kn : List (Gx × Val)) (m : Nat) (e : Gx) : evN M row kn m e = evB M row kn e (rsN M row kn m e) := by
  cases m <;> rfl
theorem col_k {m : Nat} {e : Gx} (h : colN m e = false) : e.k ≠ 2 := by
  cases m with
  | zero => rw [colN, Bool.or_eq_false_iff] at h; simpa using h.1
  | succ m => rw [colN, Bool.or_eq_false_iff] at h; simpa using h.1
theorem col_xs {m : Nat} {e : Gx} (h : colN (m + 1) e = false) : ∀ x ∈ e.xs, colN m x = false := by
  rw [colN, Bool.or_eq_false_iff, List.any_eq_false] at h
  exact fun x hx => by simpa using h.2 x hx
theorem fld_eq {a b : Gx} (h : fldG a b = true) : a.k = b.k ∧ a.op = b.op ∧ a.v = b.v ∧ a.t = b.t ∧ a.n = b.n := by
  unfold fldG Val.eqb eqv at h
  simp only [Bool.and_eq_true, beq_iff_eq] at h
  obtain ⟨⟨⟨⟨h0, h1⟩, h2, h3, h4⟩, h5⟩, h6⟩ := h
  refine ⟨h0, h1, ?_, h5, h6⟩
  obtain ⟨ak, aop, ⟨vk, vn, ⟨⟨vs⟩⟩⟩, at', an, ac, ay, axs⟩ := a
  obtain ⟨bk, bop, ⟨wk, wn, ⟨⟨ws⟩⟩⟩, bt', bn, bc, by', bxs⟩ := b
  simp only at h2 h3 h4
  subst h2 h3 h4
  rfl
theorem smN_fld {M : Nat} {a b : Gx} (h : smN M a b = true) : fldG a b = true := by
  cases M <;> (rw [smN, Bool.and_eq_true] at h; exact h.1)
theorem smN_len {M : Nat} {a b : Gx} (h : smN M a b = true) : a.xs.length = b.xs.length := by
  cases M <;> (rw [smN, Bool.and_eq_true] at h; exact smL_len h.2)
theorem smN_xs {M : Nat} {a b : Gx} (h : smN (M + 1) a b = true) (i : Nat) (hi : i < a.xs.length) (hi' : i < b.xs.length) : smN M a.xs[i] b.xs[i] = true := by
  have hl := smN_len h
  rw [smN, Bool.and_eq_true] at h
  exact (smL_at hl).1 h.2 i hi hi'
theorem evB_fld {M : Nat} {row : List Val} {a b : Gx} {rs : List Ans} (h : a.k = b.k ∧ a.op = b.op ∧ a.v = b.v ∧ a.t = b.t ∧ a.n = b.n) (hl : a.xs.length = b.xs.length) (hk : a.k ≠ 2) : evB M row [] a rs = evB M row [] b rs := by
  obtain ⟨h0, h1, h2, h3, h4⟩ := h
  have hn : noneB a = noneB b := by unfold noneB; rw [h0, h1, h2, h3, h4, hl]
  have hk' : b.k ≠ 2 := by rw [← h0]; exact hk
  unfold evB
  simp only [List.find?_nil, hn, if_neg hk, if_neg hk']
  rw [h0, h1, h2]
/-- Same expressions are worth the same, at whatever levels. -/
theorem ev_same {M' : Nat} {row : List Val} : ∀ (M : Nat) {a b : Gx}, smN M a b = true → ∀ {ma mb : Nat}, DpN ma a → DpN mb b → colN ma a = false → evN M' row [] ma a = evN M' row [] mb b
  | M, a, b, h, ma, mb, da, db, hc => by
    have hf := fld_eq (smN_fld h)
    have hl := smN_len h
    rw [ev_rs, ev_rs, evB_fld (rs := rsN M' row [] ma a) hf hl (col_k hc)]
    congr 1
    by_cases hx : a.xs = []
    · have hy : b.xs = [] := List.length_eq_zero_iff.1 (by rw [← hl, hx]; rfl)
      have e1 : rsN M' row [] ma a = [] := by cases ma with
        | zero => rfl
        | succ m => show a.xs.map _ = []; rw [hx]; rfl
      have e2 : rsN M' row [] mb b = [] := by cases mb with
        | zero => rfl
        | succ m => show b.xs.map _ = []; rw [hy]; rfl
      rw [e1, e2]
    · match M, ma, mb, h, da, db, hc with
      | 0, _, _, h, _, _, _ =>
        rw [smN, Bool.and_eq_true] at h
        obtain ⟨x, r, hr⟩ := List.exists_cons_of_ne_nil hx
        cases hb : b.xs with
        | nil => rw [hb, hr] at hl; simp at hl
        | cons y s => rw [hr, hb, smL] at h; simp at h
      | M + 1, 0, _, h, da, _, _ => exact absurd da hx
      | M + 1, ma + 1, 0, h, _, db, _ => exact absurd (show b.xs = [] from db) (fun q => hx (List.length_eq_zero_iff.1 (by rw [hl, q]; rfl)))
      | M + 1, ma + 1, mb + 1, h, da, db, hc =>
        show a.xs.map (evN M' row [] ma) = b.xs.map (evN M' row [] mb)
        refine List.ext_getElem (by simp [hl]) fun i h1 h2 => ?_
        rw [List.getElem_map, List.getElem_map]
        have hi : i < a.xs.length := by simpa using h1
        have hi' : i < b.xs.length := by simpa using h2
        exact ev_same M (smN_xs h i hi hi') (da _ (List.getElem_mem hi)) (db _ (List.getElem_mem hi')) (col_xs hc _ (List.getElem_mem hi))
/-- A part that is known as what it is worth changes nothing. -/
theorem ev_part {M : Nat} {row : List Val} {p : Gx} {mp : Nat} {v : Val} (dp : DpN mp p) (hv : evN M row [] mp p = ⟨v, 0⟩) : ∀ (m : Nat) (e : Gx), DpN m e → colN mp p = false → colN m e = false → evN M row [(p, v)] m e = evN M row [] m e
  | m, e, de, cp, ce => by
    have hrs : rsN M row [(p, v)] m e = rsN M row [] m e := by
      match m, de, ce with
      | 0, _, _ => rfl
      | m + 1, de, ce => exact List.map_congr_left (fun x hx => ev_part dp hv m x (de x hx) cp (col_xs ce x hx))
    rw [ev_rs M row [(p, v)], hrs]
    cases hs : smN M p e with
    | true =>
      rw [← ev_same M hs dp de cp, hv]
      unfold evB
      simp only [List.find?_cons, hs]
    | false =>
      rw [ev_rs M row []]
      unfold evB
      simp only [List.find?_cons, hs, List.find?_nil]
end Go.Proofs.YthnmicadlcmecaaGreatDoor
