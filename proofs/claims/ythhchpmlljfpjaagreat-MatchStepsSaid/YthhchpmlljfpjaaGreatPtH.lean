import Derived.Test.YthhchpmlljfpjaaGreatPtG
import Derived.Carry
import Derived.WideMake
namespace Go.Proofs.YthhchpmlljfpjaaGreat
open Go.RowKit

/-! The classes' map. -/
theorem ins_new {P : Program} (T kt et : TypeId) (hm : P.underlying T = some (.map kt et)) (hk : P.underlying kt = some .string) (w : World) (es : Array MapEntry) (c : Nat) (k : ByteArray) (v : Value) (hf : Instr.findNow .string (.string k) es.toList 0 = some none) :
    (Instr.mapUpdate T (.map (some w.heap.size)) (.string k) v).run P (w.alloc (.map es c)) = .ok () (w.alloc (.map (es.push { key := .string k, val := v, born := c }) (c + 1))) := by
  have hb : (w.alloc (.map es c)).heap[w.heap.size]? = some (.map es c) := heap_alloc_last w _
  have hc : (Instr.checkKey false 10000 kt (.string k)).run P (w.alloc (.map es c)) = .ok () (w.alloc (.map es c)) := MapKept.run_checkKey (k := .string k) hk (by simp [MapKept.IsKey]) false 9999
  simp [Instr.mapUpdate, run_underlying hm, MapKept.run_getObj_map hb, hc, MapKept.run_findKey hk hf, MapKept.run_setObj_map _ hb, Result.andThen]
  have hx : (w.alloc (.map es c)).heap.setIfInBounds w.heap.size (.map (es.push { key := .string k, val := v, born := c }) (c + 1)) = w.heap.push (.map (es.push { key := .string k, val := v, born := c }) (c + 1)) := by
    rw [show (w.alloc (.map es c)).heap = w.heap.push (.map es c) from rfl]
    apply Array.toList_inj.1
    simp only [Array.toList_setIfInBounds, Array.toList_push]
    rw [List.set_append_right _ _ (by simp)]
    simp
  rw [hx]
  rfl
theorem look_str {P : Program} (T kt et : TypeId) (hm : P.underlying T = some (.map kt et)) (hk : P.underlying kt = some .string) (w : World) (g : Nat) (es : Array MapEntry) (c : Nat) (k : ByteArray) (r : Option (Nat × Value)) (z : Value) (hz : (zeroValue et).run P w = .ok z w) (hb : w.heap[g]? = some (.map es c)) (hf : Instr.findNow .string (.string k) es.toList 0 = some r) :
    (Instr.lookup T (.map (some g)) (.string k) true).run P w = .ok (.tuple #[match r with | some (_, v) => v | none => z, .bool r.isSome]) w := by
  have hc : (Instr.checkKey es.isEmpty 10000 kt (.string k)).run P w = .ok () w := MapKept.run_checkKey (k := .string k) hk (by simp [MapKept.IsKey]) _ 9999
  cases r with
  | none => simp [Instr.lookup, run_underlying hm, MapKept.run_getObj_map hb, hc, MapKept.run_findKey hk hf, Result.andThen, hz]
  | some x => simp [Instr.lookup, run_underlying hm, MapKept.run_getObj_map hb, hc, MapKept.run_findKey hk hf, Result.andThen]
/-- The classes: names, tests, functions. -/
def classT : List (List UInt8 × (Nat → Bool) × Nat) :=
  [([97, 108, 112, 104, 97], fun c => up c || lw c, 143),
   ([117, 112, 112, 101, 114], up, 144),
   ([108, 111, 119, 101, 114], lw, 145),
   ([100, 105, 103, 105, 116], dg, 132),
   ([97, 108, 110, 117, 109], fun c => up c || lw c || dg c, 146),
   ([120, 100, 105, 103, 105, 116], fun c => dg c || (decide (65 ≤ c) && decide (c ≤ 70)) || (decide (97 ≤ c) && decide (c ≤ 102)), 147),
   ([115, 112, 97, 99, 101], fun c => (decide (9 ≤ c) && decide (c ≤ 13)) || decide (c = 32), 148),
   ([98, 108, 97, 110, 107], fun c => decide (c = 9) || decide (c = 32), 149),
   ([99, 110, 116, 114, 108], fun c => decide (c ≤ 31) || decide (c = 127), 150),
   ([103, 114, 97, 112, 104], gr, 151),
   ([112, 114, 105, 110, 116], fun c => decide (c = 32) || gr c, 152),
   ([112, 117, 110, 99, 116], fun c => gr c && !(up c || lw c || dg c), 153)]
theorem classes_T : classes = classT.map fun x => (x.1.map UInt8.toNat, x.2.1) := rfl
/-- The map's entries. -/
def entries : List (List UInt8 × (Nat → Bool) × Nat) → Nat → List MapEntry
  | [], _ => []
  | x :: t, c => { key := .string ⟨x.1.toArray⟩, val := .func (.func x.2.2) #[] #[], born := c } :: entries t (c + 1)
theorem find_entries (s : ByteArray) : ∀ (L : List (List UInt8 × (Nat → Bool) × Nat)) (c i : Nat), ∃ r, Instr.findNow .string (.string s) (entries L c) i = some r ∧ r.map (·.2) = (L.find? fun x => x.1.map UInt8.toNat == bsN s).map fun x => Value.func (.func x.2.2) #[] #[]
  | [], c, i => ⟨none, rfl, rfl⟩
  | x :: t, c, i => by
    have e : (s == (⟨x.1.toArray⟩ : ByteArray)) = (x.1.map UInt8.toNat == bsN s) := by
      obtain ⟨⟨d⟩⟩ := s
      show ((⟨d⟩ : Array UInt8) == x.1.toArray) = (x.1.map UInt8.toNat == d.map UInt8.toNat)
      rw [Bool.eq_iff_iff]
      simp only [beq_iff_eq, Array.mk.injEq]
      constructor
      · rintro rfl; rfl
      · intro h
        exact ((List.map_inj_right fun a b => UInt8.toNat_inj.1).1 h).symm
    unfold entries Instr.findNow
    simp only [Instr.sameNow, e, List.find?_cons]
    cases hx : x.1.map UInt8.toNat == bsN s with
    | true => exact ⟨_, rfl, rfl⟩
    | false => exact find_entries s t (c + 1) (i + 1)
theorem class_find (name : List Nat) : classOf name = (classT.find? fun x => x.1.map UInt8.toNat == name).map (·.2.1) := by
  unfold classOf
  rw [classes_T, List.find?_map]
  simp only [Option.map_map]
  rfl
theorem class_tests (w : World) : ∀ x ∈ classT, Enters Tryz.prog x.2.2 ∧ Tests x.2.2 #[] x.2.1 w := by
  intro x hx
  simp only [classT, List.mem_cons, List.mem_nil_iff, or_false] at hx
  rcases hx with rfl | rfl | rfl | rfl | rfl | rfl | rfl | rfl | rfl | rfl | rfl | rfl
  · exact ⟨enters_of Tryz.func143 (by kernel_rfl) rfl, fun c hc w1 _ => p_isAlpha c w1⟩
  · exact ⟨enters_of Tryz.func144 (by kernel_rfl) rfl, fun c hc w1 _ => p_isUpper c w1⟩
  · exact ⟨enters_of Tryz.func145 (by kernel_rfl) rfl, fun c hc w1 _ => p_isLower c w1⟩
  · exact ⟨enters_of Tryz.func132 (by kernel_rfl) rfl, fun c hc w1 _ => p_isDigit c w1⟩
  · exact ⟨enters_of Tryz.func146 (by kernel_rfl) rfl, fun c hc w1 _ => p_isAlnum c w1⟩
  · exact ⟨enters_of Tryz.func147 (by kernel_rfl) rfl, fun c hc w1 _ => p_xdigit c w1⟩
  · exact ⟨enters_of Tryz.func148 (by kernel_rfl) rfl, fun c hc w1 _ => p_space c w1⟩
  · exact ⟨enters_of Tryz.func149 (by kernel_rfl) rfl, fun c hc w1 _ => p_blank c w1⟩
  · exact ⟨enters_of Tryz.func150 (by kernel_rfl) rfl, fun c hc w1 _ => p_cntrl c w1⟩
  · exact ⟨enters_of Tryz.func151 (by kernel_rfl) rfl, fun c hc w1 _ => p_isGraph c w1⟩
  · exact ⟨enters_of Tryz.func152 (by kernel_rfl) rfl, fun c hc w1 _ => p_print c w1⟩
  · exact ⟨enters_of Tryz.func153 (by kernel_rfl) rfl, fun c hc w1 _ => p_punct c w1⟩
set_option maxHeartbeats 1000000 in
theorem p_classes (w : World) : Calls Tryz.prog 136 #[] w fun e w' => e = .returned (.map (some w.heap.size)) ∧ w' = w.alloc (.map (entries classT 0).toArray 12) := by
  have hmm := @run_makeMap Tryz.prog
  have i0 := ins_new (P := Tryz.prog) 148 9 144 Tryz.underlying148 Tryz.underlying9 w #[] 0 ⟨#[97, 108, 112, 104, 97]⟩ (.func (.func 143) #[] #[]) (by rfl)
  have i1 := ins_new (P := Tryz.prog) 148 9 144 Tryz.underlying148 Tryz.underlying9 w #[{ key := .string ⟨#[97, 108, 112, 104, 97]⟩, val := .func (.func 143) #[] #[], born := 0 }] 1 ⟨#[117, 112, 112, 101, 114]⟩ (.func (.func 144) #[] #[]) (by rfl)
  have i2 := ins_new (P := Tryz.prog) 148 9 144 Tryz.underlying148 Tryz.underlying9 w #[{ key := .string ⟨#[97, 108, 112, 104, 97]⟩, val := .func (.func 143) #[] #[], born := 0 }, { key := .string ⟨#[117, 112, 112, 101, 114]⟩, val := .func (.func 144) #[] #[], born := 1 }] 2 ⟨#[108, 111, 119, 101, 114]⟩ (.func (.func 145) #[] #[]) (by rfl)
  have i3 := ins_new (P := Tryz.prog) 148 9 144 Tryz.underlying148 Tryz.underlying9 w #[{ key := .string ⟨#[97, 108, 112, 104, 97]⟩, val := .func (.func 143) #[] #[], born := 0 }, { key := .string ⟨#[117, 112, 112, 101, 114]⟩, val := .func (.func 144) #[] #[], born := 1 }, { key := .string ⟨#[108, 111, 119, 101, 114]⟩, val := .func (.func 145) #[] #[], born := 2 }] 3 ⟨#[100, 105, 103, 105, 116]⟩ (.func (.func 132) #[] #[]) (by rfl)
  have i4 := ins_new (P := Tryz.prog) 148 9 144 Tryz.underlying148 Tryz.underlying9 w #[{ key := .string ⟨#[97, 108, 112, 104, 97]⟩, val := .func (.func 143) #[] #[], born := 0 }, { key := .string ⟨#[117, 112, 112, 101, 114]⟩, val := .func (.func 144) #[] #[], born := 1 }, { key := .string ⟨#[108, 111, 119, 101, 114]⟩, val := .func (.func 145) #[] #[], born := 2 }, { key := .string ⟨#[100, 105, 103, 105, 116]⟩, val := .func (.func 132) #[] #[], born := 3 }] 4 ⟨#[97, 108, 110, 117, 109]⟩ (.func (.func 146) #[] #[]) (by rfl)
  have i5 := ins_new (P := Tryz.prog) 148 9 144 Tryz.underlying148 Tryz.underlying9 w #[{ key := .string ⟨#[97, 108, 112, 104, 97]⟩, val := .func (.func 143) #[] #[], born := 0 }, { key := .string ⟨#[117, 112, 112, 101, 114]⟩, val := .func (.func 144) #[] #[], born := 1 }, { key := .string ⟨#[108, 111, 119, 101, 114]⟩, val := .func (.func 145) #[] #[], born := 2 }, { key := .string ⟨#[100, 105, 103, 105, 116]⟩, val := .func (.func 132) #[] #[], born := 3 }, { key := .string ⟨#[97, 108, 110, 117, 109]⟩, val := .func (.func 146) #[] #[], born := 4 }] 5 ⟨#[120, 100, 105, 103, 105, 116]⟩ (.func (.func 147) #[] #[]) (by rfl)
  have i6 := ins_new (P := Tryz.prog) 148 9 144 Tryz.underlying148 Tryz.underlying9 w #[{ key := .string ⟨#[97, 108, 112, 104, 97]⟩, val := .func (.func 143) #[] #[], born := 0 }, { key := .string ⟨#[117, 112, 112, 101, 114]⟩, val := .func (.func 144) #[] #[], born := 1 }, { key := .string ⟨#[108, 111, 119, 101, 114]⟩, val := .func (.func 145) #[] #[], born := 2 }, { key := .string ⟨#[100, 105, 103, 105, 116]⟩, val := .func (.func 132) #[] #[], born := 3 }, { key := .string ⟨#[97, 108, 110, 117, 109]⟩, val := .func (.func 146) #[] #[], born := 4 }, { key := .string ⟨#[120, 100, 105, 103, 105, 116]⟩, val := .func (.func 147) #[] #[], born := 5 }] 6 ⟨#[115, 112, 97, 99, 101]⟩ (.func (.func 148) #[] #[]) (by rfl)
  have i7 := ins_new (P := Tryz.prog) 148 9 144 Tryz.underlying148 Tryz.underlying9 w #[{ key := .string ⟨#[97, 108, 112, 104, 97]⟩, val := .func (.func 143) #[] #[], born := 0 }, { key := .string ⟨#[117, 112, 112, 101, 114]⟩, val := .func (.func 144) #[] #[], born := 1 }, { key := .string ⟨#[108, 111, 119, 101, 114]⟩, val := .func (.func 145) #[] #[], born := 2 }, { key := .string ⟨#[100, 105, 103, 105, 116]⟩, val := .func (.func 132) #[] #[], born := 3 }, { key := .string ⟨#[97, 108, 110, 117, 109]⟩, val := .func (.func 146) #[] #[], born := 4 }, { key := .string ⟨#[120, 100, 105, 103, 105, 116]⟩, val := .func (.func 147) #[] #[], born := 5 }, { key := .string ⟨#[115, 112, 97, 99, 101]⟩, val := .func (.func 148) #[] #[], born := 6 }] 7 ⟨#[98, 108, 97, 110, 107]⟩ (.func (.func 149) #[] #[]) (by rfl)
  have i8 := ins_new (P := Tryz.prog) 148 9 144 Tryz.underlying148 Tryz.underlying9 w #[{ key := .string ⟨#[97, 108, 112, 104, 97]⟩, val := .func (.func 143) #[] #[], born := 0 }, { key := .string ⟨#[117, 112, 112, 101, 114]⟩, val := .func (.func 144) #[] #[], born := 1 }, { key := .string ⟨#[108, 111, 119, 101, 114]⟩, val := .func (.func 145) #[] #[], born := 2 }, { key := .string ⟨#[100, 105, 103, 105, 116]⟩, val := .func (.func 132) #[] #[], born := 3 }, { key := .string ⟨#[97, 108, 110, 117, 109]⟩, val := .func (.func 146) #[] #[], born := 4 }, { key := .string ⟨#[120, 100, 105, 103, 105, 116]⟩, val := .func (.func 147) #[] #[], born := 5 }, { key := .string ⟨#[115, 112, 97, 99, 101]⟩, val := .func (.func 148) #[] #[], born := 6 }, { key := .string ⟨#[98, 108, 97, 110, 107]⟩, val := .func (.func 149) #[] #[], born := 7 }] 8 ⟨#[99, 110, 116, 114, 108]⟩ (.func (.func 150) #[] #[]) (by rfl)
  have i9 := ins_new (P := Tryz.prog) 148 9 144 Tryz.underlying148 Tryz.underlying9 w #[{ key := .string ⟨#[97, 108, 112, 104, 97]⟩, val := .func (.func 143) #[] #[], born := 0 }, { key := .string ⟨#[117, 112, 112, 101, 114]⟩, val := .func (.func 144) #[] #[], born := 1 }, { key := .string ⟨#[108, 111, 119, 101, 114]⟩, val := .func (.func 145) #[] #[], born := 2 }, { key := .string ⟨#[100, 105, 103, 105, 116]⟩, val := .func (.func 132) #[] #[], born := 3 }, { key := .string ⟨#[97, 108, 110, 117, 109]⟩, val := .func (.func 146) #[] #[], born := 4 }, { key := .string ⟨#[120, 100, 105, 103, 105, 116]⟩, val := .func (.func 147) #[] #[], born := 5 }, { key := .string ⟨#[115, 112, 97, 99, 101]⟩, val := .func (.func 148) #[] #[], born := 6 }, { key := .string ⟨#[98, 108, 97, 110, 107]⟩, val := .func (.func 149) #[] #[], born := 7 }, { key := .string ⟨#[99, 110, 116, 114, 108]⟩, val := .func (.func 150) #[] #[], born := 8 }] 9 ⟨#[103, 114, 97, 112, 104]⟩ (.func (.func 151) #[] #[]) (by rfl)
  have i10 := ins_new (P := Tryz.prog) 148 9 144 Tryz.underlying148 Tryz.underlying9 w #[{ key := .string ⟨#[97, 108, 112, 104, 97]⟩, val := .func (.func 143) #[] #[], born := 0 }, { key := .string ⟨#[117, 112, 112, 101, 114]⟩, val := .func (.func 144) #[] #[], born := 1 }, { key := .string ⟨#[108, 111, 119, 101, 114]⟩, val := .func (.func 145) #[] #[], born := 2 }, { key := .string ⟨#[100, 105, 103, 105, 116]⟩, val := .func (.func 132) #[] #[], born := 3 }, { key := .string ⟨#[97, 108, 110, 117, 109]⟩, val := .func (.func 146) #[] #[], born := 4 }, { key := .string ⟨#[120, 100, 105, 103, 105, 116]⟩, val := .func (.func 147) #[] #[], born := 5 }, { key := .string ⟨#[115, 112, 97, 99, 101]⟩, val := .func (.func 148) #[] #[], born := 6 }, { key := .string ⟨#[98, 108, 97, 110, 107]⟩, val := .func (.func 149) #[] #[], born := 7 }, { key := .string ⟨#[99, 110, 116, 114, 108]⟩, val := .func (.func 150) #[] #[], born := 8 }, { key := .string ⟨#[103, 114, 97, 112, 104]⟩, val := .func (.func 151) #[] #[], born := 9 }] 10 ⟨#[112, 114, 105, 110, 116]⟩ (.func (.func 152) #[] #[]) (by rfl)
  have i11 := ins_new (P := Tryz.prog) 148 9 144 Tryz.underlying148 Tryz.underlying9 w #[{ key := .string ⟨#[97, 108, 112, 104, 97]⟩, val := .func (.func 143) #[] #[], born := 0 }, { key := .string ⟨#[117, 112, 112, 101, 114]⟩, val := .func (.func 144) #[] #[], born := 1 }, { key := .string ⟨#[108, 111, 119, 101, 114]⟩, val := .func (.func 145) #[] #[], born := 2 }, { key := .string ⟨#[100, 105, 103, 105, 116]⟩, val := .func (.func 132) #[] #[], born := 3 }, { key := .string ⟨#[97, 108, 110, 117, 109]⟩, val := .func (.func 146) #[] #[], born := 4 }, { key := .string ⟨#[120, 100, 105, 103, 105, 116]⟩, val := .func (.func 147) #[] #[], born := 5 }, { key := .string ⟨#[115, 112, 97, 99, 101]⟩, val := .func (.func 148) #[] #[], born := 6 }, { key := .string ⟨#[98, 108, 97, 110, 107]⟩, val := .func (.func 149) #[] #[], born := 7 }, { key := .string ⟨#[99, 110, 116, 114, 108]⟩, val := .func (.func 150) #[] #[], born := 8 }, { key := .string ⟨#[103, 114, 97, 112, 104]⟩, val := .func (.func 151) #[] #[], born := 9 }, { key := .string ⟨#[112, 114, 105, 110, 116]⟩, val := .func (.func 152) #[] #[], born := 10 }] 11 ⟨#[112, 117, 110, 99, 116]⟩ (.func (.func 153) #[] #[]) (by rfl)
  simp only [List.push_toArray, List.nil_append, List.cons_append, Nat.reduceAdd] at i0 i1 i2 i3 i4 i5 i6 i7 i8 i9 i10 i11
  go_enter Tryz.func136, Tryz.ntmps136
  go_wp2
  go_ret
  exact ⟨rfl, rfl⟩
end Go.Proofs.YthhchpmlljfpjaaGreat
