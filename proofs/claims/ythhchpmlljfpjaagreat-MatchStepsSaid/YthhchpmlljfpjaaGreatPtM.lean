import Derived.Test.YthhchpmlljfpjaaGreatPtH
import Derived.Test.YthhchpmlljfpjaaGreatPtL
namespace Go.Proofs.YthhchpmlljfpjaaGreat
open Go.RowKit

theorem cls_last (w : World) (o : Obj) (nq : Nat) (o' : Obj) : (((w.alloc o).drewN nq).alloc o').heap[w.heap.size + 1]? = some o' := by
  have := heap_alloc_last ((w.alloc o).drewN nq) o'
  rwa [show ((w.alloc o).drewN nq).heap.size = w.heap.size + 1 from World.size_alloc w o] at this
theorem results_cbD {fn : Func} {p q : Tmp} {T : TypeId} {al : Nat} {ae : TypeId} (h : fn.results = #[.cell p T, .tmp q]) {tmps : Array Value} {w : World} {g : Nat} {t : TypeId} {cs : List Value} {k : Value}
    (hp : tmps.getD p undef = .pointer (some ⟨g, 0, none⟩)) (hq : tmps.getD q undef = k) (hg : CB w t g cs) (hu : Tryz.prog.underlying T = some (.array al ae)) (hi : (Tryz.prog.info? T).map (·.size) = some cs.length) :
    (results fn tmps).run Tryz.prog w = .ok (.tuple #[.agg cs.toArray, k]) w := by
  rw [results_cell_tmp h, hp, hq]
  simp [asAddr, Result.andThen, run_loadVar_row (P := Tryz.prog) w g t T cs.toArray (0, 0) (.array al ae) hg hu rfl (by rw [hi]; simp)]
theorem look_class (w : World) (g : Nat) (k : ByteArray) (hb : w.heap[g]? = some (.map (entries classT 0).toArray 12)) :
    (Instr.lookup 148 (.map (some g)) (.string k) true).run Tryz.prog w = .ok (.tuple #[match classT.find? (fun x => x.1.map UInt8.toNat == bsN k) with | some x => .func (.func x.2.2) #[] #[] | none => .nilFunc, .bool (classT.find? fun x => x.1.map UInt8.toNat == bsN k).isSome]) w := by
  obtain ⟨r, h1, h2⟩ := find_entries k classT 0 0
  have := look_str (P := Tryz.prog) 148 9 144 Tryz.underlying148 Tryz.underlying9 w g _ 12 k r .nilFunc (Tryz.zeroValue144 w) hb h1
  rw [this]
  revert h2
  generalize classT.find? (fun x => x.1.map UInt8.toNat == bsN k) = q
  intro h2
  cases r with
  | none =>
    cases q with
    | none => rfl
    | some x => cases h2
  | some y =>
    cases q with
    | none => cases h2
    | some x =>
      obtain ⟨i, v⟩ := y
      have : v = Value.func (.func x.2.2) #[] #[] := by simpa using h2
      subst this
      rfl
set_option maxHeartbeats 800000 in
set_option maxRecDepth 100000 in
theorem p_class (rb : Nat) (s : ByteArray) (i o : Nat) (w : World) (n : Nat) (hn : s.size = n) (hbig : n ≤ 1099511627776) (hn32 : n < 4294967281) (hi : i ≤ n) (hg : Gl w) (hrb : 0 < rb) (hr : RB w rb s i o) :
    Calls Tryz.prog 126 #[.pointer (some ⟨rb, 0, none⟩)] w fun e w' => ItemRet rb s i o n (clsR ((bsN s).drop i)) w e w' := by
  have hrl := CB.lt hr
  have hr1 : RB (w.alloc (.cells S4.zero.cells.toArray 39)) rb s i o := CB.alloc hr _
  have hg1 : Gl (w.alloc (.cells S4.zero.cells.toArray 39)) := hg.below ((Below.refl _ _).alloc (Nat.le_refl _) _)
  have HZ := Lib.hid (CB.new w 39 S4.zero.cells)
  have HS0 := Lib.hid ((RS.refl hr).alloc (.cells S4.zero.cells.toArray 39))
  obtain ⟨h0, h1, h2, f1, f2⟩ := hr.cells
  obtain ⟨h0', h1', h2', f1', f2'⟩ := hr1.cells
  have c1 : (0 : Int) ≤ (i : Int) := by omega
  have c2 : (i : Int) ≤ (s.size : Int) := by omega
  have c3 : i ≤ s.size := by omega
  obtain ⟨v, hv0⟩ : ∃ v, cutVal (s.extract i n) ⟨#[58, 93]⟩ = v := ⟨_, rfl⟩
  have hv := cutVal_ret (S := s.extract i n) (p := ⟨#[58, 93]⟩) (by decide)
  have hT : bsN (s.extract i n) = (bsN s).drop i := by rw [← hn]; exact bsN_from s i
  rw [hT, hv0] at hv
  have hS32 : (s.extract i n).size < 4294967281 := by rw [ByteArray.size_extract]; omega
  obtain ⟨M, hM⟩ : ∃ M, clsR ((bsN s).drop i) = M := ⟨_, rfl⟩
  rw [hM]
  have hM2 : M = match cutP (bsN ⟨#[58, 93]⟩) ((bsN s).drop i) with | none => .no 101 | some (name, r) => match classOf name with | none => .no 103 | some p => .ok (S4.of p) r := hM.symm
  cases hq : cutP (bsN ⟨#[58, 93]⟩) ((bsN s).drop i) with
  | none =>
    rw [hq] at hv hM2
    have hv : v = .tuple #[.string (s.extract i n), .string ⟨#[]⟩, .bool false] := hv
    subst hv
    have HM : Hid (M = .no 101) := hM2
    clear hM hM2 hq
    have HV0 := Lib.hid hv0
    clear hv0
    have hz := CB.four HZ.out
    go_enter Tryz.func126, Tryz.ntmps126
    go_wp2
    go_quiet ((go_at_call 121; exact q_cut hS32 hg1 HV0.out))
    go_wp2
    have hs1 := HS0.out.drewN nq
    refine bodyPost_ret (results_cbD rfl rfl rfl (CB.set4 (CB.drewN HZ.out nq) _ _ _ _) Tryz.underlying39 infoSet) rfl ?_
    exact ⟨i, .zero, 101, ((((hs1.other (Nat.le_refl _) (by omega) 0 _).other (Nat.le_refl _) (by omega) 1 _).other (Nat.le_refl _) (by omega) 2 _).other (Nat.le_refl _) (by omega) 3 _), Nat.le_refl _, hi, S4.zero_fit, rfl, .inr ⟨by decide, HM.out⟩⟩
  | some x =>
    obtain ⟨a, r⟩ := x
    rw [hq] at hv hM2
    have hv : v = .tuple #[.string (strN a), .string (strN r), .bool true] := hv
    subst hv
    have hlen := cutP_len hq
    have hdrop := cutP_drop hq
    have hlP : (bsN ⟨#[58, 93]⟩).length = 2 := rfl
    rw [hlP] at hlen hdrop
    rw [List.length_drop, bsN_len, hn] at hlen
    rw [List.drop_drop] at hdrop
    have ha8 : B8 a := by
      obtain ⟨pre, hpre⟩ : ∃ u, a ++ u = (bsN s).drop i := cutP_pre hq
      intro y hy
      exact bsN_8 s y (List.mem_of_mem_drop (hpre ▸ List.mem_append_left _ hy))
    have hsz : (strN a).size = a.length := strN_size a
    obtain ⟨La, hLa⟩ : ∃ La, a.length = La := ⟨_, rfl⟩
    rw [hLa] at hlen hdrop hsz
    have hM2 : M = match classOf a with | none => .no 103 | some p => .ok (S4.of p) r := hM2
    rw [class_find] at hM2
    have hba := bsN_strN ha8
    have hlook := fun (W : World) (g : Nat) (h : W.heap[g]? = some (.map (entries classT 0).toArray 12)) => look_class W g (strN a) h
    rw [hba] at hlook
    have hct := class_tests
    obtain ⟨N, hN⟩ : ∃ N, strN a = N := ⟨_, rfl⟩
    rw [hN] at hsz hlook hv0
    have HV0 := Lib.hid hv0
    have HD := Lib.hid hdrop
    have hz := CB.four HZ.out
    cases hf : classT.find? (fun x => x.1.map UInt8.toNat == a) with
    | none =>
      rw [hf] at hM2 hlook
      have HM : Hid (M = .no 103) := hM2
      have HK := Lib.hid hlook
      clear hM hM2 hq hv0 hlook hba hLa hdrop hT hct hN ha8 hf hlP hsz
      go_enter Tryz.func126, Tryz.ntmps126
      go_wp2
      go_quiet ((go_at_call 121; exact q_cut hS32 hg1 HV0.out))
      go_wp2_with (go_at_call 136; refine (p_classes _).mono ?_; rintro e w' ⟨rfl, rfl⟩; have hl := HK.out (((w.alloc (.cells #[.int .u64 0, .int .u64 0, .int .u64 0, .int .u64 0] 39)).drewN nq).alloc (.map (entries classT 0).toArray 12)) (w.heap.size + 1) (cls_last _ _ _ _))
      have hs1 := HS0.out.drewN nq
      refine bodyPost_ret (results_cbD rfl rfl rfl (CB.alloc (CB.set4 (CB.drewN HZ.out nq) _ _ _ _) _) Tryz.underlying39 infoSet) rfl ?_
      exact ⟨i, .zero, 103, (((((hs1.other (Nat.le_refl _) (by omega) 0 _).other (Nat.le_refl _) (by omega) 1 _).other (Nat.le_refl _) (by omega) 2 _).other (Nat.le_refl _) (by omega) 3 _).alloc _), Nat.le_refl _, hi, S4.zero_fit, rfl, .inr ⟨by decide, HM.out⟩⟩
    | some y =>
      obtain ⟨nm, p, k⟩ := y
      have hmem := List.mem_of_find?_eq_some hf
      rw [hf] at hM2 hlook
      have HM : Hid (M = .ok (S4.of p) r) := hM2
      have HK : Hid (∀ (W : World) (g : Nat), W.heap[g]? = some (.map (entries classT 0).toArray 12) → (Instr.lookup 148 (.map (some g)) (.string N) true).run Tryz.prog W = .ok (.tuple #[.func (.func k) #[] #[], .bool true]) W) := hlook
      have HT : Hid (∀ W, Enters Tryz.prog k ∧ Tests k #[] p W) := fun W => hct W _ hmem
      have hi2 : i + (La + 2) ≤ n := by omega
      have HRL : Hid (rb ≠ w.heap.size) := by show rb ≠ _; omega
      clear hM hM2 hq hv0 hlook hba hLa hdrop hT hct hN ha8 hf hlP hmem
      go_enter Tryz.func126, Tryz.ntmps126
      go_wp2
      go_quiet ((go_at_call 121; exact q_cut hS32 hg1 HV0.out))
      go_wp2_with (first | (go_at_call 136; refine (p_classes _).mono ?_; rintro e w' ⟨rfl, rfl⟩; have hl := HK.out (((w.alloc (.cells #[.int .u64 0, .int .u64 0, .int .u64 0, .int .u64 0] 39)).drewN nq).alloc (.map (entries classT 0).toArray 12)) (w.heap.size + 1) (cls_last _ _ _ _)) | (go_at_call 128; refine (p_those k #[] p _ (HT.out w).1 (HT.out _).2).mono ?_; rintro e w1 ⟨S, rfl, hS, hb⟩; have HZ2 := Lib.hid (CB.below (CB.alloc (CB.other (CB.drewN HZ.out nq) ⟨rb, 1, none⟩ HRL.out _) _) hb); have hz2 := CB.four HZ2.out; have HS2 := Lib.hid (RS.below (((HS0.out.drewN nq).at (i + (La + 2)) (by go_num)).alloc _) hb)))
      have hne : w.heap.size ≠ rb := fun e => HRL.out e.symm
      refine bodyPost_ret (results_cbD rfl rfl rfl (CB.set4 HZ2.out _ _ _ _) Tryz.underlying39 infoSet) rfl ?_
      exact ⟨i + (La + 2), S, 0, ((((HS2.out.other (Nat.le_refl _) hne 0 _).other (Nat.le_refl _) hne 1 _).other (Nat.le_refl _) hne 2 _).other (Nat.le_refl _) hne 3 _), by omega, hi2, by rw [hS.out]; exact S4.of_fit _, rfl, .inl ⟨rfl, by omega, by rw [HM.out, hS.out, HD.out]⟩⟩
end Go.Proofs.YthhchpmlljfpjaaGreat
