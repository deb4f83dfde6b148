/- What the methods record, page and home of a head answer. No conditions but the sizes. -/
import Derived.Test.YtnecigbncggogaaPgSeal
import Derived.Test.YtnecigbncggogaaDkRefSync
namespace Go.Proofs.Ytnecigbncggogaa
open Go.RowKit
set_option linter.unusedVariables false
set_option maxRecDepth 20000

/-- copy of a text into a block. -/
theorem wl_copy_str {ops : Array Oper} {rest : List Oper} {o : Oper} {a : Act} {w : World} {Q : Exit → Act → World → Prop} (hgd : o.guard = none) (d s : Operand)
    (ho : o.op = .call { callee := .builtin .copy, args := #[d, s], argTypes := #[22, 9] })
    (g off dLen dCap : Nat) (x : ByteArray) (hd : a.eval d = .slice (some ⟨g, off, none⟩) dLen dCap) (hs : a.eval s = .string x)
    (cur : List UInt8) (t : TypeId) (hb : Blk w g (bcells cur) t) (hn : x.size ≤ dLen) (hfit : off + x.size ≤ cur.length)
    (h : ∀ w', Blk w' g (bcells (lay cur off x.data.toList)) t → (∀ F : Nat → Prop, F g → Chg F w w') → w'.heap.size = w.heap.size → wpList Try.prog ops Q rest (a.put o.dst (goInt x.size)) w') : wpList Try.prog ops Q (o :: rest) a w := by
  refine wpList_plain hgd fun K hK => ?_
  have hrun := Go.Lib.run_copy_row_string (P := Try.prog) w 22 9 o.type 5 g off dLen dCap x (bcells cur).toArray t Try.underlying22 sizeByte hb hn (by simpa [bcells_len] using hfit)
  unfold Oper.wp
  simp [execOp, ho, resolve, invoke, builtin, hd, hs, hrun, Result.andThen]
  refine hK _ _ (h _ ?_ (fun F hF => (Chg.refl F w).setRow (Or.inl hF) _) (by simp))
  have e2 : (bcells cur).take off ++ bcells x.data.toList ++ (bcells cur).drop (off + x.size) = bcells (lay cur off x.data.toList) := by
    have e3 : x.size = x.data.toList.length := by rw [Array.length_toList]; rfl
    rw [bcells_take, bcells_drop, bcells_append, bcells_append, e3]
    rfl
  refine (setRow_heap w g (bcells cur).toArray _ t _ hb).trans ?_
  rw [← e2, List.append_assoc]
  rfl
theorem lay_mid {a b c x : List UInt8} {off : Nat} (ha : a.length = off) (hx : x.length = b.length) : lay (a ++ (b ++ c)) off x = a ++ (x ++ c) := by
  unfold lay
  rw [List.take_left' ha, ← List.append_assoc a b c, List.drop_left' (by rw [List.length_append]; omega), List.append_assoc]
def mark4 : ByteArray := ⟨#[81, 82, 89, 49]⟩
theorem rec_lay (G R : Nat) : lay (lay (lay (zeros 16) 0 [81, 82, 89, 49]) 4 (le 8 G)) 12 (le 4 R) = hrec G R := by
  have e0 : zeros 16 = [] ++ (zeros 4 ++ (zeros 8 ++ zeros 4)) := rfl
  have e1 : lay (zeros 16) 0 [81, 82, 89, 49] = [81, 82, 89, 49] ++ (zeros 8 ++ zeros 4) := by rw [e0]; exact lay_mid rfl rfl
  have e2 : lay ([81, 82, 89, 49] ++ (zeros 8 ++ zeros 4)) 4 (le 8 G) = [81, 82, 89, 49] ++ (le 8 G ++ zeros 4) := lay_mid rfl (by rw [le_len, zeros_len])
  have e3 : [81, 82, 89, 49] ++ (le 8 G ++ zeros 4) = ([81, 82, 89, 49] ++ le 8 G) ++ (zeros 4 ++ []) := by simp
  rw [e1, e2, e3, lay_mid (by simp [le_len]) (by rw [le_len, zeros_len])]
  simp [hrec]
theorem load_lay (G R : Nat) : lay (lay (zeros 508) 0 (hrec G R)) 492 (hrec G R) = headLoad G R := by
  have e0 : zeros 508 = [] ++ (zeros 16 ++ (zeros 476 ++ zeros 16)) := by
    unfold zeros
    rw [List.nil_append, List.replicate_append_replicate, List.replicate_append_replicate]
  have e1 : lay (zeros 508) 0 (hrec G R) = hrec G R ++ (zeros 476 ++ zeros 16) := by rw [e0]; exact lay_mid rfl (by rw [hrec_len, zeros_len])
  have e3 : hrec G R ++ (zeros 476 ++ zeros 16) = (hrec G R ++ zeros 476) ++ (zeros 16 ++ []) := by simp
  rw [e1, e3, lay_mid (by rw [List.length_append, hrec_len, zeros_len]) (by rw [hrec_len, zeros_len])]
  simp [headLoad, noughts, zeros]
theorem mk16 (w : World) : (Instr.makeSlice 22 (.int .i64 16) (.int .i64 16)).run Try.prog w = .ok (.slice (some ⟨w.heap.size, 0, none⟩) 16 16) (w.alloc (.cells (bcells (zeros 16)).toArray 5)) := mk_bytes 16 (by decide) w
theorem mk508 (w : World) : (Instr.makeSlice 22 (.int .i64 508) (.int .i64 508)).run Try.prog w = .ok (.slice (some ⟨w.heap.size, 0, none⟩) 508 508) (w.alloc (.cells (bcells (zeros 508)).toArray 5)) := mk_bytes 508 (by decide) w
def hcells (G R : Nat) : List Value := [.int .i64 (G : Int), .int .i64 (R : Int)]
set_option maxHeartbeats 1000000 in
theorem home_any (G R : Nat) (w : World) (hG : G < 9223372036854775808) :
    Calls Try.prog 72 #[.agg #[.int .i64 (G : Int), .int .i64 (R : Int)]] w fun e w' => e = .returned (.int .i64 ((G % 2 : Nat) : Int)) ∧ w' = w.alloc (.cells (hcells G R).toArray 88) := by
  have hc : (w.alloc (.cells #[.int .i64 (G : Int), .int .i64 (R : Int)] 88)).cell? ⟨w.heap.size, 0, none⟩ = some (.int .i64 (G : Int)) := (Blk.new w (hcells G R) 88).cell 0
  have ht : Int.tmod (G : Int) 2 = ((G % 2 : Nat) : Int) := rfl
  go_enter Try.func72, Try.ntmps72
  go_wp2
  go_ret
  exact ⟨rfl, rfl⟩
set_option maxHeartbeats 1000000 in
theorem record_any (G R : Nat) (w : World) (hG : G < 9223372036854775808) (hR : R < 9223372036854775808) :
    Calls Try.prog 83 #[.agg #[.int .i64 (G : Int), .int .i64 (R : Int)]] w fun e w' => e = .returned (.slice (some ⟨w.heap.size + 1, 0, none⟩) 16 16) ∧ Blk w' (w.heap.size + 1) (bcells (hrec G R)) 5 ∧ Below w.heap.size w w' ∧ w'.heap.size = w.heap.size + 2 := by
  have hmk := mk16
  have HX0 := Blk.new w (hcells G R) 88
  have HX := hid (HX0.alloc (.cells (bcells (zeros 16)).toArray 5))
  have HG0 := Blk.new (w.alloc (.cells (hcells G R).toArray 88)) (bcells (zeros 16)) 5
  rw [show (w.alloc (.cells (hcells G R).toArray 88)).heap.size = w.heap.size + 1 by simp] at HG0
  have HG := hid HG0
  have HB0 : Hid (Below w.heap.size w ((w.alloc (.cells (hcells G R).toArray 88)).alloc (.cells (bcells (zeros 16)).toArray 5))) := ((Below.refl _ _).alloc (Nat.le_refl _) _).alloc (by simp) _
  have HS0 : Hid (((w.alloc (.cells (hcells G R).toArray 88)).alloc (.cells (bcells (zeros 16)).toArray 5)).heap.size = w.heap.size + 2) := by show _ = _; simp
  have hw1 := wrap_u64 (show G < 18446744073709551616 by omega)
  have hw2 := wrap_u64 (show R < 18446744073709551616 by omega)
  have C1 : Hid (∀ w5 : World, Blk w5 (w.heap.size + 1) (bcells (lay (zeros 16) 0 [81, 82, 89, 49])) 5 → Calls Try.prog 80 #[.slice (some ⟨w.heap.size + 1, 4, none⟩) 8 12, .int .u64 (G : Int)] w5 fun e w' => e = .returned (.tuple #[]) ∧ Blk w' (w.heap.size + 1) (bcells (lay (lay (zeros 16) 0 [81, 82, 89, 49]) 4 (le 8 G))) 5 ∧ (∀ F : Nat → Prop, F (w.heap.size + 1) → Chg F w5 w') ∧ w'.heap.size = w5.heap.size) := fun w5 h5 =>
    put_any (w.heap.size + 1) 4 8 12 G _ w5 h5 (by decide) (by decide) (by omega)
  have C2 : Hid (∀ w5 : World, Blk w5 (w.heap.size + 1) (bcells (lay (lay (zeros 16) 0 [81, 82, 89, 49]) 4 (le 8 G))) 5 → Calls Try.prog 80 #[.slice (some ⟨w.heap.size + 1, 12, none⟩) 4 4, .int .u64 (R : Int)] w5 fun e w' => e = .returned (.tuple #[]) ∧ Blk w' (w.heap.size + 1) (bcells (hrec G R)) 5 ∧ (∀ F : Nat → Prop, F (w.heap.size + 1) → Chg F w5 w') ∧ w'.heap.size = w5.heap.size) := fun w5 h5 => by
    have := put_any (w.heap.size + 1) 12 4 4 R _ w5 h5 (by decide) (by rw [lay_len (by rw [le_len]; decide)]; decide) (by omega)
    rwa [rec_lay] at this
  clear HX0 HG0
  unfold hcells at *
  go_enter Try.func83, Try.ntmps83
  go_wp2_with (first
    | (refine wl_copy_str rfl _ _ rfl (w.heap.size + 1) 0 16 16 mark4 rfl rfl (zeros 16) 5 ?hb ?hn ?hf ?_; (case hb => exact HG.out); (case hn => decide); (case hf => decide); intro w5 B5 K5 S5; have HB5 := hid B5; have HK5 := hid K5; have HS5 := hid S5; have HX5 := hid (HX.out.chg (K5 (· = w.heap.size + 1) rfl) (by omega)); have x50 := HX5.out.cell 0; have x51 := HX5.out.cell 1; have HC1 := hid (C1.out w5.drew HB5.out.drew); clear B5 K5 S5 HX HG C1)
    | fail)
  go_region_held_law (fun w' => w'.cell? ⟨w.heap.size, 0, none⟩ = some (.int .i64 (G : Int))) (first | exact x50 | exact HX7.out.cell 0)
    (first
      | (go_at_call 80; go_loud (with_reducible refine HC1.out.mono ?_); rintro e w7 ⟨rfl, B7, K7, S7⟩; have HB7 := hid B7; have HK7 := hid K7; have HS7 := hid S7; have HX7 := hid (HX5.out.drew.chg (K7 (· = w.heap.size + 1) rfl) (by omega)); have x71 := HX7.out.cell 1; have HC2 := hid (C2.out w7.drew HB7.out.drew); clear B7 K7 S7 C2)
      | fail)
  all_goals go_wp2
  go_region_held_law (fun w' => w'.cell? ⟨w.heap.size, 1, none⟩ = some (.int .i64 (R : Int))) (first | exact x71 | exact HX8.out.cell 1)
    (first
      | (go_at_call 80; go_loud (with_reducible refine HC2.out.mono ?_); rintro e w8 ⟨rfl, B8, K8, S8⟩; have HB8 := hid B8; have HK8 := hid K8; have HS8 := hid S8; have HX8 := hid (HX7.out.drew.chg (K8 (· = w.heap.size + 1) rfl) (by omega)); clear B8 K8 S8)
      | fail)
  all_goals go_wp2
  go_ret
  have s0 := HS0.out
  have s5 := HS5.out
  have s7 : _ = w5.heap.size := HS7.out
  have s8 : _ = w7.heap.size := HS8.out
  refine ⟨rfl, HB8.out, ?_, by omega⟩
  have b5 := (HK5.out (· = w.heap.size + 1) rfl).below (B := w.heap.size) (fun j e => by rw [e]; omega) (by omega)
  have b7 := (HK7.out (· = w.heap.size + 1) rfl).below (B := w.heap.size) (fun j e => by rw [e]; omega) (show w.heap.size ≤ w5.heap.size by omega)
  have b8 := (HK8.out (· = w.heap.size + 1) rfl).below (B := w.heap.size) (fun j e => by rw [e]; omega) (show w.heap.size ≤ w7.heap.size by omega)
  exact HB0.out.trans (b5.trans ((Below.refl _ _).drew.trans (b7.trans ((Below.refl _ _).drew.trans b8))))
set_option maxHeartbeats 1000000 in
theorem page_any (G R : Nat) (w : World) (hG : G < 9223372036854775808) (hR : R < 9223372036854775808) :
    Calls Try.prog 73 #[.agg #[.int .i64 (G : Int), .int .i64 (R : Int)]] w fun e w' => e = .returned (.slice (some ⟨w.heap.size + 6, 0, none⟩) 512 512) ∧ Blk w' (w.heap.size + 6) (bcells (headPage G R)) 5 ∧ Below w.heap.size w w' ∧ w'.heap.size = w.heap.size + 7 := by
  have hmk := mk508
  have HX0 := Blk.new w (hcells G R) 88
  have HX1 := HX0.alloc (.cells (bcells (zeros 508)).toArray 5)
  have HG0 := Blk.new (w.alloc (.cells (hcells G R).toArray 88)) (bcells (zeros 508)) 5
  rw [show (w.alloc (.cells (hcells G R).toArray 88)).heap.size = w.heap.size + 1 by simp] at HG0
  have HB0 : Hid (Below w.heap.size w ((w.alloc (.cells (hcells G R).toArray 88)).alloc (.cells (bcells (zeros 508)).toArray 5))) := ((Below.refl _ _).alloc (Nat.le_refl _) _).alloc (by simp) _
  have HS0 : Hid (((w.alloc (.cells (hcells G R).toArray 88)).alloc (.cells (bcells (zeros 508)).toArray 5)).heap.size = w.heap.size + 2) := by show _ = _; simp
  have HX := hid HX1
  have HG := hid HG0
  have x0 := HX1.cell 0
  have x1 := HX1.cell 1
  have C1 := hid (fun w5 => record_any G R w5 hG hR)
  have C2 : Hid (∀ w5 : World, Blk w5 (w.heap.size + 1) (bcells (headLoad G R)) 5 → Calls Try.prog 58 #[.slice (some ⟨w.heap.size + 1, 0, none⟩) 508 508] w5 fun e w' => e = .returned (.slice (some ⟨w5.heap.size, 0, none⟩) 512 512) ∧ Blk w' w5.heap.size (bcells (headPage G R)) 5 ∧ Below w5.heap.size w5 w' ∧ w'.heap.size = w5.heap.size + 1) := fun w5 h5 =>
    sealed_any (w.heap.size + 1) 0 508 (headLoad G R) w5 (headLoad_len G R) h5.byts'
  have HLn := hid (hrec_len G R)
  have HLy := hid (load_lay G R)
  have R1 : Hid (∀ w3 : World, w3.heap.size = w.heap.size + 2 → Calls Try.prog 83 #[.agg #[.int .i64 (G : Int), .int .i64 (R : Int)]] w3 fun e w' => e = .returned (.slice (some ⟨w.heap.size + 3, 0, none⟩) 16 16) ∧ Blk w' (w.heap.size + 3) (bcells (hrec G R)) 5 ∧ Below (w.heap.size + 2) w3 w' ∧ w'.heap.size = w.heap.size + 4) := fun w3 h3 => by
    have := record_any G R w3 hG hR
    rwa [h3] at this
  have R2 : Hid (∀ w3 : World, w3.heap.size = w.heap.size + 4 → Calls Try.prog 83 #[.agg #[.int .i64 (G : Int), .int .i64 (R : Int)]] w3 fun e w' => e = .returned (.slice (some ⟨w.heap.size + 5, 0, none⟩) 16 16) ∧ Blk w' (w.heap.size + 5) (bcells (hrec G R)) 5 ∧ Below (w.heap.size + 4) w3 w' ∧ w'.heap.size = w.heap.size + 6) := fun w3 h3 => by
    have := record_any G R w3 hG hR
    rwa [h3] at this
  have R3 : Hid (∀ w3 : World, w3.heap.size = w.heap.size + 6 → Blk w3 (w.heap.size + 1) (bcells (headLoad G R)) 5 → Calls Try.prog 58 #[.slice (some ⟨w.heap.size + 1, 0, none⟩) 508 508] w3 fun e w' => e = .returned (.slice (some ⟨w.heap.size + 6, 0, none⟩) 512 512) ∧ Blk w' (w.heap.size + 6) (bcells (headPage G R)) 5 ∧ Below (w.heap.size + 6) w3 w' ∧ w'.heap.size = w.heap.size + 7) := fun w3 h3 h5 => by
    have := C2.out w3 h5
    rwa [h3] at this
  have HN1 : Hid ((bcells (hrec G R)).length = Nat.min 16 508) := by show _ = _; rw [bcells_len, hrec_len]; rfl
  have HN2 : Hid ((bcells (hrec G R)).length = Nat.min 16 16) := by show _ = _; rw [bcells_len, hrec_len]; rfl
  have HF1 : Hid (0 + (bcells (hrec G R)).length ≤ (bcells (zeros 508)).length) := by show _ ≤ _; rw [bcells_len, bcells_len, zeros_len, hrec_len]; decide
  have HF2 : Hid (492 + (bcells (hrec G R)).length ≤ (bcells (lay (zeros 508) 0 (hrec G R))).length) := by show _ ≤ _; rw [bcells_len, bcells_len, lay_len (by rw [hrec_len, zeros_len]; decide), zeros_len, hrec_len]; decide
  clear HX0 HX1 HG0 C1 C2
  unfold hcells at *
  go_enter Try.func73, Try.ntmps73
  go_wp2_with (first
    | (go_at_call 83; go_loud (with_reducible refine (R1.out _ HS0.out).mono ?_); rintro e w3 ⟨rfl, B3, L3, S3⟩; have HB3 := hid B3; have HL3 := hid L3; have HS3 := hid S3; have HG3 := hid (HG.out.below L3 (by omega)); have HX3 := hid (HX.out.below L3 (by omega)); clear B3 L3 S3 HG HX R1 x0 x1)
    | (refine wl_copy rfl _ _ rfl (w.heap.size + 1) 0 508 508 _ _ _ rfl rfl (bcells (zeros 508)) 5 ?hb (bcells (hrec G R)) ?hn ?hs ?hf (bcells_one _) ?_; (case hb => exact HG3.out); (case hn => exact HN1.out); (case hs => exact HB3.out.byts'.src); (case hf => exact HF1.out); intro w5 B5 K5 S5; rw [lay_splice] at B5; have HB5 := hid B5; have HK5 := hid K5; have HS5 := hid S5; have HX5 := hid (HX3.out.chg (K5 (· = w.heap.size + 1) rfl) (by omega)); have x50 := HX5.out.cell 0; have x51 := HX5.out.cell 1; have HR2 := hid (R2.out w5.drew (S5.trans HS3.out)); clear B5 K5 S5 R2 HG3)
    | fail)
  go_region_held_law (fun w' => w'.cell? ⟨w.heap.size, 0, none⟩ = some (.int .i64 (G : Int)) ∧ w'.cell? ⟨w.heap.size, 1, none⟩ = some (.int .i64 (R : Int))) (first | exact ⟨x50, x51⟩ | exact ⟨HX7.out.cell 0, HX7.out.cell 1⟩ | exact ⟨HX8.out.cell 0, HX8.out.cell 1⟩)
    (first
      | (go_at_call 83; go_loud (with_reducible refine HR2.out.mono ?_); rintro e w7 ⟨rfl, B7, L7, S7⟩; have HB7 := hid B7; have HL7 := hid L7; have HS7 := hid S7; have HG7 := hid (HB5.out.drew.below L7 (by omega)); have HX7 := hid (HX5.out.drew.below L7 (by omega)); clear B7 L7 S7)
      | (go_loud (refine st_copy rfl _ _ rfl (w.heap.size + 1) 492 16 16 _ _ _ rfl rfl _ 5 HG7.out (bcells (hrec G R)) HN2.out HB7.out.byts'.src HF2.out (bcells_one _) ?_; intro w8 B8 K8 S8; rw [lay_splice, HLy.out] at B8; have HB8 := hid B8; have HK8 := hid K8; have HS8 := hid (S8.trans HS7.out); have HX8 := hid (HX7.out.chg (K8 (· = w.heap.size + 1) rfl) (by omega)); clear B8 K8 S8))
      | fail)
  all_goals go_wp2_with (first
    | (go_at_call 58; go_loud (with_reducible refine (R3.out _ HS8.out HB8.out).mono ?_); rintro e w9 ⟨rfl, B9, L9, S9⟩; have HB9 := hid B9; have HL9 := hid L9; have HS9 := hid S9; clear B9 L9 S9)
    | fail)
  go_ret
  have s0 := HS0.out
  have s3 := HS3.out
  have s5 := HS5.out
  have s7 := HS7.out
  refine ⟨rfl, HB9.out, ?_, HS9.out⟩
  have b5 := (HK5.out (· = w.heap.size + 1) rfl).below (B := w.heap.size) (fun j e => by rw [e]; omega) (by omega)
  have b8 := (HK8.out (· = w.heap.size + 1) rfl).below (B := w.heap.size) (fun j e => by rw [e]; omega) (by omega)
  exact HB0.out.trans ((HL3.out.mono (by omega)).trans (b5.trans ((Below.refl _ _).drew.trans ((HL7.out.mono (by omega)).trans (b8.trans (HL9.out.mono (by omega)))))))
end Go.Proofs.Ytnecigbncggogaa
