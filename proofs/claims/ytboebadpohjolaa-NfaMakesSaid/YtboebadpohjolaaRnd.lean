import Derived.RangeFuncNested
namespace Go.Proofs.Ytboebadpohjolaa
open Go Go.RowKit

/-! A range over a function whose rounds are numbered: the k-th round is asked at the k-th element alone, and none breaks off. -/
variable {F : Fence} {n : Nat} {P : Program}

def Rounds (F : Fence) (n : Nat) (P : Program) (g : Nat) (lb : Array Value) (enc : Nat → Array Value) (Kp : World → World → Prop) (N : Nat) (w : World) : Prop :=
  ∀ (l : Nat) (J : Nat → World → Prop) (W : World), Below w.heap.size w W → AbidesFrom W.heap.size J →
    (∀ k W1, k < N → J k W1 → YieldAt F (n - 1) P l (enc k) W1 fun e W' => e = .returned (.bool true) ∧ J (k + 1) W' ∧ Kp W1 W') →
    J 0 W → CallsIn F n P g (#[.func (.yield l) #[] #[]] ++ lb) W fun e W' => (∃ v, e = .returned v) ∧ J N W'
def roundsPost (B : Nat) (Kp : World → World → Prop) (I : Nat → World → Prop) (k : Nat) (W : World) : Exit → Act → World → Prop
  | .normal, _, W' => KeepsFrom B W W' ∧ Kp W W' ∧ I (k + 1) W'
  | _, _, _ => False
theorem wpIn_rounds {g : Operand} {ps : Array Tmp} {assign body : Code} {Q : Exit → Act → World → Prop} {a : Act} {w : World} (hro : F.round = none) (h1 : 1 ≤ n) {gf : Nat} {lb : Array Value}
    (hg : a.eval g = .func (.func gf) #[] lb) (hFg : F.fn gf) (eg : ∀ args w, (callFunc gf args).run P w = .ok (.enter gf args) w)
    {enc : Nat → Array Value} {Kp : World → World → Prop} {N : Nat} {w0 : World} (hseq : Rounds F (n - 1) P gf lb enc Kp N w0)
    (hKt : ∀ {A B C : World}, Kp A B → Kp B C → Kp A C) (hKb : ∀ (W : World) (l : Nat) (o o' : Obj), w.heap.size ≤ l → W.heap[l]? = some o → o.isCells = false → o.isWalk = false → Kp W (W.putObj l o'))
    (hb0 : Below w0.heap.size w0 w) (hps : ∀ k, (enc k).size = ps.size)
    (I : Nat → World → Prop) (hI : OwnFrom w.heap.size I) (h0 : I 0 w) (A : Nat → Act → World → Prop) (hA : ∀ a', OwnFrom w.heap.size (fun k W => A k a' W))
    (hassign : ∀ (l k : Nat) (W : World), k < N → I k W →
      assign.wpIn (F.inRound l) (n - 1 - 1) P (Exit.then (fun a' W' => KeepsFrom w.heap.size W W' ∧ Kp W W' ∧ A k a' W') (fun _ _ _ => False)) { tmps := (ps.zip (enc k)).foldl (fun t (p, v) => t.setIfInBounds p v) a.tmps, defers := [] } W)
    (hbody : ∀ (l k : Nat) (a' : Act) (W : World), k < N → A k a' W → body.wpIn (F.inRound l) (n - 1 - 1) P (roundsPost w.heap.size Kp I k W) a' W)
    (hdone : ∀ (D : Nat) (W : World), w.heap.size ≤ D → I N W → W.heap[D]? = some (.deferred (some [])) → Q .normal { a with defers := { target := .collected D, args := #[] } :: a.defers } W) :
    (Code.rangeFunc g ps assign body).wpIn F n P Q a w := by
  refine wpIn_rangeFunc fun fn hfn => ?_
  rw [hro]
  obtain ⟨R, hR⟩ : ∃ R : LoopState → Loop, R = fun s => { state := s, pending := none, fn, tmps := a.tmps, params := ps, assign, body, defers := w.heap.size } := ⟨_, rfl⟩
  obtain ⟨V, hV⟩ : ∃ V, (w.alloc (.deferred (some []))).alloc (.loop (R .ready)) = V := ⟨_, rfl⟩
  have hVs : V.heap.size = w.heap.size + 2 := by rw [← hV]; simp
  have hd : V.heap[w.heap.size]? = some (.deferred (some [])) := by rw [← hV]; exact (Below.heap_alloc _ _ _ (by simp)).trans (World.alloc_heap_new w _)
  have hl : V.heap[w.heap.size + 1]? = some (.loop (R .ready)) := by rw [← hV]; have := World.alloc_heap_new (w.alloc (.deferred (some []))) (.loop (R .ready)); rwa [World.size_alloc] at this
  have hIV : I 0 V := by rw [← hV]; exact hI.alloc _ (hI.alloc _ h0)
  have hbV : Below w0.heap.size w0 V := by rw [← hV]; exact hb0.trans ((((Below.refl _ w).alloc (Nat.le_refl _) _).alloc (by simp) _).mono hb0.size)
  refine ⟨w.heap.size + 1, [{ target := .collected w.heap.size, args := #[] }], V, { target := .fn (.func gf) lb, args := #[.func (.yield (w.heap.size + 1)) #[] #[]] }, V, gf, #[.func (.yield (w.heap.size + 1)) #[] #[]] ++ lb, V, ?_, ?_, ?_, ?_, fun _ => h1, ?_⟩
  · rw [← hV, hR]; exact run_enterLoop_outer _ _ _ _ _
  · simp only [resolve, hg]
    simp [go_sem]
  · intro f' hf'
    simp [Target.leads] at hf'
    subst hf'
    exact hFg
  · simp [invoke, go_sem, eg]
  refine (hseq (w.heap.size + 1) (fun k W => I k W ∧ W.heap[w.heap.size + 1]? = some (.loop (R .ready)) ∧ W.heap[w.heap.size]? = some (.deferred (some []))) V hbV ?_ ?_ ⟨hIV, hl, hd⟩).mono ?_
  · rintro k A B row ⟨ha, hal, had⟩ hgr hrow
    refine ⟨hI k A B row ha hgr (fun r e => ?_), (grownBy_keeps hgr (fun r e => (hrow r e).2) hal rfl).trans hal, (grownBy_keeps hgr (fun r e => (hrow r e).2) had rfl).trans had⟩
    obtain ⟨hle, o, ho, hw⟩ := hrow r e
    exact ⟨by omega, o, ho, Obj.not_cells_of_walk hw⟩
  · rintro k W hk ⟨hi, hwl, hwd⟩
    have hlt : w.heap.size + 1 < W.heap.size := (Array.getElem?_eq_some_iff.1 hwl).1
    have hy := run_yield (P := P) (args := enc k) hwl (by rw [hR]; exact hps k)
    rw [hR] at hy
    clear hlt
    refine ⟨fn, _, assign, body, hy, roundIn_of_wpIn hfn (wpIn_mono (hassign _ k W hk hi) ?_)⟩
    intro e a' U hp
    cases e with
    | normal =>
      obtain ⟨hkf0, hkp0, hau⟩ := hp
      have hul := hkf0.same _ _ (by omega) hwl rfl
      have hud := hkf0.same _ _ (Nat.le_refl _) hwd rfl
      have hlt : w.heap.size + 1 < U.heap.size := (Array.getElem?_eq_some_iff.1 hul).1
      refine ⟨_, run_beginRound hul (by rw [hR]), ?_⟩
      have hbl : (U.putObj (w.heap.size + 1) (.loop { R .ready with state := .busy })).heap[w.heap.size + 1]? = some (.loop { R .ready with state := .busy }) := World.putObj_heap_same hlt
      have hbd : (U.putObj (w.heap.size + 1) (.loop { R .ready with state := .busy })).heap[w.heap.size]? = some (.deferred (some [])) := (World.putObj_heap_other (by omega)).trans hud
      refine wpIn_mono (hbody _ k a' _ hk ((hA a').putObj _ hau (by omega) hul rfl)) ?_
      intro e a3 X hp
      cases e with
      | normal =>
        obtain ⟨hkf, hkp, hix⟩ := hp
        have hxl := hkf.same _ _ (by omega) hbl rfl
        have hxd := hkf.same _ _ (Nat.le_refl _) hbd rfl
        have hr := run_endRound (P := P) none hxl
        rw [hR] at hr
        refine ⟨_, _, hr, rfl, ⟨hI.putObj _ hix (by omega) hxl rfl, ?_, (World.putObj_heap_other (by omega)).trans hxd⟩, hKt hkp0 (hKt (hKt (hKb _ _ _ _ (by omega) hul rfl rfl) hkp) (hKb _ _ _ _ (by omega) hxl rfl rfl))⟩
        rw [World.putObj_heap_same (Array.getElem?_eq_some_iff.1 hxl).1, hR]
        rfl
      | _ => exact hp.elim
    | _ => exact hp.elim
  · rintro e X ⟨⟨v, rfl⟩, hi, hxl, hxd⟩
    have hr := run_endLoop (P := P) hxl (by rw [hR]; simp)
    rw [hR] at hr
    exact ⟨none, _, hr, hdone _ _ (Nat.le_refl _) (hI.putObj _ hi (by omega) hxl rfl) ((World.putObj_heap_other (by omega)).trans hxd)⟩
end Go.Proofs.Ytboebadpohjolaa
