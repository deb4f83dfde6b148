/- What Encode and isRight of package node do. Conditions: the node lies within the reach. -/
import Derived.Test.YtilmlegkkgiahaaNdEncI
namespace Go.Proofs.Ytilmlegkkgiahaa
open Go.RowKit Go.Lib
set_option linter.unusedVariables false
set_option maxRecDepth 20000


def ebEnd (n : Nd) (w : World) (e : Ending) (w' : World) : Prop := Below w.heap.size w w' ∧ ((n.err = 0 ∧ ∃ v, e = .returned (.tuple #[v, .int .i64 0]) ∧ OwnB w' w.heap.size v n.load) ∨ (n.err ≠ 0 ∧ e = .returned (.tuple #[.slice none 0 0, .int .i64 n.err])))
theorem own_down {w : World} {b b' : Nat} {v : Value} {l : List UInt8} (h : OwnB w b v l) (hb : b' ≤ b) : OwnB w b' v l := own_mono h hb
set_option maxHeartbeats 2000000 in
theorem encode_any {F : Nat → Prop} (cv kv dv : Value) (n : Nd) (w : World) (h : NV w F cv kv dv n) :
    Calls Try.prog 10 #[.agg #[.bool n.leaf, cv, kv, dv]] w (ebEnd n w) := by
  have hN := h
  obtain ⟨⟨pc, cc, rfl, _, _, _, hlc⟩, ⟨pk, ck, rfl, _, _, _, hlk⟩, ⟨pd, cd, rfl, _⟩⟩ := h
  have HB0 := hid (alloc_below w (.cells #[.bool n.leaf, .slice pc n.cells.length cc, .slice pk n.keys.length ck, .slice pd n.kids.length cd] 29))
  have HN0 := hid (hN.below HB0.out)
  have A := hid (check_any _ _ _ n _ HN0.out)
  have C : Hid (∀ w', Below (w.alloc (.cells #[.bool n.leaf, .slice pc n.cells.length cc, .slice pk n.keys.length ck, .slice pd n.kids.length cd] 29)).heap.size (w.alloc (.cells #[.bool n.leaf, .slice pc n.cells.length cc, .slice pk n.keys.length ck, .slice pd n.kids.length cd] 29)) w' → (w'.cell? ⟨w.heap.size, 0, none⟩ = some (.bool n.leaf) ∧ w'.cell? ⟨w.heap.size, 1, none⟩ = some (.slice pc n.cells.length cc) ∧ w'.cell? ⟨w.heap.size, 2, none⟩ = some (.slice pk n.keys.length ck) ∧ w'.cell? ⟨w.heap.size, 3, none⟩ = some (.slice pd n.kids.length cd)) ∧
      NV w' F (.slice pc n.cells.length cc) (.slice pk n.keys.length ck) (.slice pd n.kids.length cd) n) := fun w' b => ⟨box4 b, HN0.out.below b⟩
  by_cases he : n.err = 0
  · obtain ⟨hf, hlen⟩ := (Nd.right_iff n).2 he
    have HE := hid he
    rw [he] at A
    rw [Nd.fields_eq] at hf
    cases hl : n.leaf
    · rw [hl] at A C HB0 hf
      simp only [Bool.false_eq_true, if_false, Nd.inn, Bool.and_eq_true, decide_eq_true_eq] at hf
      obtain ⟨h1, h2, h3, ⟨h4, h5⟩, h6⟩ := hf
      obtain ⟨lf, cells, keys, kids⟩ := n
      simp only at hl h1 h2 h3 h4 h5 h6 A C HB0 HN0 hlen ⊢
      subst hl
      match kids, h3, h6, A, C, HB0, HN0, HE, hlen with
      | [], h3, h6, A, C, HB0, HN0, HE, hlen => simp at h3
      | d :: m, h3, h6, A, C, HB0, HN0, HE, hlen =>
        have hm : m.length = keys.length := by simpa using h3
        have hk5 : 5 + lenKeys keys ≤ 508 := by simpa [Nd.len] using hlen
        have D := hid (fun w' (N : NV w' F (.slice pc cells.length cc) (.slice pk keys.length ck) (.slice pd (d :: m).length cd) ⟨false, cells, keys, d :: m⟩) => show Calls Try.prog 27 #[.slice pk keys.length ck, .slice pd (keys.length + 1) cd] w' (encEnd w' (padTo 508 (2 :: (le2 keys.length ++ (le2 d.toNat ++ encKids keys m))))) from by
          obtain ⟨_, ⟨pk', ck', e1, q1, _⟩, ⟨pd', cd', e2, q2, _⟩⟩ := N
          simp only [Value.slice.injEq] at e1 e2
          obtain ⟨rfl, _, rfl⟩ := e1
          obtain ⟨rfl, _, rfl⟩ := e2
          exact innerBytes_any pk pd keys d m ck cd w' q1 q2 hm h4 h6 hk5)
        have hkl : (d :: m).length = keys.length + 1 := by simpa using hm
        have HLd : Hid ((⟨false, cells, keys, d :: m⟩ : Nd).load = padTo 508 (2 :: (le2 keys.length ++ (le2 d.toNat ++ encKids keys m)))) := rfl
        unfold ebEnd
        rw [HLd.out]
        unfold encEnd at D
        generalize padTo 508 (2 :: (le2 keys.length ++ (le2 d.toNat ++ encKids keys m))) = ld at *
        generalize hnn : (⟨false, cells, keys, d :: m⟩ : Nd) = nn at *
        rw [hkl] at A C HB0 D ⊢
        clear h1 h2 h3 h4 h5 h6 HN0 HLd hlen hk5 hnn hm hkl
        go_enter Try.func10, Try.ntmps10
        go_wp2_with (first
          | (go_at_call 14; with_reducible refine A.out.mono ?_; rintro e w3 ⟨rfl, b3⟩; obtain ⟨⟨x0, x1, x2, x3⟩, N3⟩ := C.out w3 b3; have D3 := hid (D.out w3 N3); have HB3 := hid (HB0.out.trans (b3.mono HB0.out.size)); clear b3 N3)
          | (go_at_call 27; with_reducible refine D3.out.mono ?_; rintro e w4 ⟨v4, rfl, o4, b4⟩; have HO4 := hid o4; have HB4 := hid (HB3.out.trans (b4.mono HB3.out.size)); clear b4 o4)
          | fail)
        go_ret2
        exact ⟨HB4.out, Or.inl ⟨HE.out, _, rfl, own_down HO4.out HB3.out.size⟩⟩
    · rw [hl] at A C HB0 hf
      simp only [if_true, Nd.lf, Bool.and_eq_true] at hf
      obtain ⟨h1, h2, h3, h4, h5⟩ := hf
      obtain ⟨lf, cells, keys, kids⟩ := n
      simp only at hl h1 h2 h3 h4 h5 A C HB0 HN0 hlen ⊢
      subst hl
      have hk3 : 3 + lenCells cells ≤ 508 := by simpa [Nd.len] using hlen
      have D := hid (fun w' (N : NV w' F (.slice pc cells.length cc) (.slice pk keys.length ck) (.slice pd kids.length cd) ⟨true, cells, keys, kids⟩) => show Calls Try.prog 26 #[.slice pc cells.length cc] w' (encEnd w' (padTo 508 (1 :: (le2 cells.length ++ encCells cells)))) from by
        obtain ⟨⟨pc', cc', e1, q1, _⟩, _, _⟩ := N
        simp only [Value.slice.injEq] at e1
        obtain ⟨rfl, _, rfl⟩ := e1
        exact leafBytes_any pc cells cc w' q1 h4 hk3)
      have HLd : Hid ((⟨true, cells, keys, kids⟩ : Nd).load = padTo 508 (1 :: (le2 cells.length ++ encCells cells))) := rfl
      unfold ebEnd
      rw [HLd.out]
      unfold encEnd at D
      generalize padTo 508 (1 :: (le2 cells.length ++ encCells cells)) = ld at *
      generalize hnn : (⟨true, cells, keys, kids⟩ : Nd) = nn at *
      clear h1 h2 h3 h4 h5 HN0 HLd hlen hk3 hnn
      go_enter Try.func10, Try.ntmps10
      go_wp2_with (first
        | (go_at_call 14; with_reducible refine A.out.mono ?_; rintro e w3 ⟨rfl, b3⟩; obtain ⟨⟨x0, x1, x2, x3⟩, N3⟩ := C.out w3 b3; have D3 := hid (D.out w3 N3); have HB3 := hid (HB0.out.trans (b3.mono HB0.out.size)); clear b3 N3)
        | (go_at_call 26; with_reducible refine D3.out.mono ?_; rintro e w4 ⟨v4, rfl, o4, b4⟩; have HO4 := hid o4; have HB4 := hid (HB3.out.trans (b4.mono HB3.out.size)); clear b4 o4)
        | fail)
      go_ret2
      exact ⟨HB4.out, Or.inl ⟨HE.out, _, rfl, own_down HO4.out HB3.out.size⟩⟩
  · have HE := hid he
    unfold ebEnd
    have heb : (n.err == 0) = false := beq_eq_false_iff_ne.2 he
    generalize n.load = ld at *
    generalize n.err = er at *
    clear HN0 C hN
    go_enter Try.func10, Try.ntmps10
    go_wp2_with (first
      | (go_at_call 14; with_reducible refine A.out.mono ?_; rintro e w3 ⟨rfl, b3⟩; have HB3 := hid (HB0.out.trans (b3.mono HB0.out.size)); clear b3)
      | fail)
    go_ret2
    exact ⟨HB3.out, Or.inr ⟨HE.out, rfl⟩⟩
/-- A piece that is right. -/
theorem isRight_any (p : Option Addr) (d : List UInt8) (c : Nat) (next : Int) (w : World) (hd : d.length ≤ 140737488351232) :
    Calls Try.prog 42 #[.agg #[.slice p d.length c, .int .i64 next]] w fun e w' => e = .returned (.bool (pieceOk d next)) ∧ Below w.heap.size w w' := by
  have HQ : Hid (pieceOk d next = (decide (1 ≤ d.length) && (decide (d.length ≤ 503) && (decide (next = 0) || isPage next)))) := rfl
  have P := hid (fun w => page_any next w)
  generalize pieceOk d next = q at *
  generalize d.length = L at *
  by_cases h1 : 1 ≤ L
  · by_cases h2 : L ≤ 503
    · by_cases h3 : next = 0
      · subst h3
        obtain rfl : q = true := by rw [HQ.out]; simp [h1, h2]
        clear HQ
        go_enter Try.func42, Try.ntmps42
        go_wp2_with (first | (go_at_call 51; with_reducible refine (P.out _).mono ?_; rintro e w3 ⟨rfl, hw⟩; subst hw) | fail)
        go_ret
        exact ⟨rfl, alloc_below _ _⟩
      · have h3b : (next == 0) = false := beq_eq_false_iff_ne.2 h3
        obtain rfl : q = isPage next := by rw [HQ.out]; simp [h1, h2, h3]
        clear HQ
        generalize isPage next = z at *
        go_enter Try.func42, Try.ntmps42
        go_wp2_with (first | (go_at_call 51; with_reducible refine (P.out _).mono ?_; rintro e w3 ⟨rfl, hw⟩; subst hw) | fail)
        go_ret
        exact ⟨rfl, alloc_below _ _⟩
    · have h2b : decide ((L : Int) ≤ 503) = false := decide_eq_false (by omega)
      obtain rfl : q = false := by rw [HQ.out]; simp [h2]
      clear HQ
      go_enter Try.func42, Try.ntmps42
      go_wp2
      go_ret
      exact ⟨rfl, alloc_below _ _⟩
  · obtain rfl : q = false := by rw [HQ.out]; simp [h1]
    clear HQ
    go_enter Try.func42, Try.ntmps42
    go_wp2
    go_ret
    exact ⟨rfl, alloc_below _ _⟩
end Go.Proofs.Ytilmlegkkgiahaa
