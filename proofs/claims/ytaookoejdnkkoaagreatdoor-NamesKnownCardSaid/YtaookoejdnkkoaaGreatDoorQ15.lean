import Derived.Test.YtaookoejdnkkoaaGreatDoorQDeJ
import Derived.Test.YtaookoejdnkkoaaGreatDoorQ09
import Derived.Test.YtaookoejdnkkoaaGreatDoorQ12
import Derived.Test.YtaookoejdnkkoaaGreatDoorQ08
import Derived.Test.YtaookoejdnkkoaaGreatDoorQ13
import Derived.Test.YtaookoejdnkkoaaGreatDoorQ07
import Derived.Test.YtaookoejdnkkoaaGreatDoorQ14
import Derived.Test.YtaookoejdnkkoaaGreatDoorQ11
namespace Go.Proofs.YtaookoejdnkkoaaGreatDoor
open Go.RowKit

/-- What Encode tells. -/
def EncTells (n k : Nat) (kk : Int) (b : List Nat) : Prop := (n < 2 ^ 4096 ∧ k < 2 ^ 4096 ∧ kk = 0 ∧ KeyB n k b) ∨ (¬ (n < 2 ^ 4096 ∧ k < 2 ^ 4096) ∧ kk = 3 ∧ b = [])
theorem EncTells.one {n k : Nat} {kk kk' : Int} {b b' : List Nat} (h : EncTells n k kk b) (g : EncTells n k kk' b') : kk = kk' ∧ b = b' := by
  rcases h with ⟨h1, h2, rfl, h3⟩ | ⟨h1, rfl, rfl⟩ <;> rcases g with ⟨g1, g2, rfl, g3⟩ | ⟨g1, rfl, rfl⟩
  · exact ⟨rfl, h3.one g3⟩
  · exact absurd ⟨h1, h2⟩ g1
  · exact absurd ⟨g1, g2⟩ h1
  · exact ⟨rfl, rfl⟩
def Enc8 (Q : Int → List Nat → Prop) (w : World) (e : Ending) (w' : World) : Prop :=
  Below w.heap.size w w' ∧ ∃ a c k b, e = .returned (.tuple #[.slice a (List.length b) c, .int .i64 k]) ∧ own8 w' w.heap.size (.slice a (List.length b) c) b ∧ Q k b
theorem keepB {n k : Nat} {W : World} : KeepE W.heap.size (EncCPost n k (W.alloc (.cells #[.int .i64 0] 28))) := by
  rintro e w' ⟨hb, hor⟩
  refine ⟨by rw [hb.block _ (by simp)]; exact heap_new _ _, ?_⟩
  rcases hor with ⟨_, _, a, c, zs, rfl, _⟩ | ⟨_, rfl⟩
  · exact .inl ⟨_, rfl⟩
  · exact .inr ⟨_, rfl⟩
set_option maxHeartbeats 800000 in
set_option maxRecDepth 100000 in
theorem encode_any (aN : Option Addr) (lN cN : Nat) (Ns : List Nat) (aE : Option Addr) (lE cE : Nat) (Es : List Nat) (w : World)
    (hlN : Ns.length = lN) (hbN : lN ≤ 1048576) (hcN : lN ≤ cN) (hrN : Rd .u64 w aN Ns) (bxN : Bd Ns) (hlE : Es.length = lE) (hbE : lE ≤ 1048576) (hcE : lE ≤ cE) (hrE : Rd .u64 w aE Es) (bxE : Bd Es) :
    Calls Tryz.prog 87 #[.agg #[.slice aN lN cN, .slice aE lE cE]] w (Enc8 (EncTells (val Ns) (val Es)) w) := by
  have hmf : ∀ (fn : Fn) (first cap : Array Value) (w : World), (Instr.makeFunc fn first cap).run Tryz.prog w = .ok (.func fn first cap) w := fun _ _ _ _ => rfl
  have HLN := Lib.hid hlN
  have HRN := Lib.hid hrN
  have HXN := Lib.hid bxN
  have HLE := Lib.hid hlE
  have HRE := Lib.hid hrE
  have HXE := Lib.hid bxE
  clear hlN hrN bxN hlE hrE bxE
  go_enter Tryz.func87, Tryz.ntmps87
  go_wp2_with fail
  obtain ⟨W0, hW0⟩ : ∃ W0, W0 = w.alloc (.cells #[.slice aN lN cN, .slice aE lE cE] 25) := ⟨_, rfl⟩
  have hB0 : Below w.heap.size w W0 := by rw [hW0]; exact (Below.refl _ _).alloc (Nat.le_refl _) _
  have hc0 : W0.cell? ⟨w.heap.size, 0, none⟩ = some (.slice aN lN cN) := by rw [hW0]; exact cell_alloc (i := 0) (heap_new _ _)
  have hc1 : W0.cell? ⟨w.heap.size, 1, none⟩ = some (.slice aE lE cE) := by rw [hW0]; exact cell_alloc (i := 1) (heap_new _ _)
  rw [← hW0]
  have HB0 := Lib.hid hB0
  have hB2 := (Below.refl W0.heap.size W0).alloc (Nat.le_refl _) (.cells #[.int .i64 0] 28)
  refine (caught_b _ W0 (encClo_any w.heap.size aN lN cN Ns aE lE cE Es _ (below_cell hB2 _ _ hc0) (below_cell hB2 _ _ hc1) HLN.out hbN hcN ((HRN.out.below hB0).below hB2) HXN.out HLE.out hbE hcE ((HRE.out.below hB0).below hB2) HXE.out) keepB).mono ?_
  clear hc0 hc1 hW0 hB0
  rintro e w1 ⟨e0, w0, ⟨hb, hor⟩, hh⟩
  have hsz : w.heap.size ≤ W0.heap.size := HB0.out.size
  have hb1 : Below w.heap.size w w0 := HB0.out.trans ((hB2.mono hsz).trans (hb.mono (by simp; omega)))
  clear hB2
  rcases hh with ⟨x, he0, rfl, hw1⟩ | ⟨k, he0, rfl, hw1⟩
  · rcases hor with ⟨h1, h2, a1, c1, b, he, ho, hT⟩ | ⟨hi, he⟩
    · rw [he] at he0
      simp only [Ending.returned.injEq] at he0
      subst he0
      have hb2 : Below w.heap.size w w1 := by
        rw [hw1]
        exact hb1.setCell (p := ⟨W0.heap.size, 0, none⟩) hsz _
      have ho2 : own8 w1 w.heap.size (.slice a1 b.length c1) b := by
        rw [hw1]
        refine ((Chg.refl (fun k => k = W0.heap.size) w0).setCell rfl _).owns (owns_base ho (by simp; omega)) fun k hk => ?_
        have := World.ownsRow.lt ho k hk
        simp at this
        omega
      have HB2 := Lib.hid hb2
      have HO2 := Lib.hid ho2
      have HT : Hid (EncTells (val Ns) (val Es) 0 b) := .inl ⟨h1, h2, rfl, hT⟩
      clear hT hb2 ho2 ho hw1 hb hb1 HB0 he h1 h2
      go_wp2
      go_ret2
      exact ⟨HB2.out, _, _, _, _, rfl, HO2.out, HT.out⟩
    · rw [he] at he0
      cases he0
  · rcases hor with ⟨h1, h2, a1, c1, b, he, ho, hT⟩ | ⟨hi, he⟩
    · rw [he] at he0
      cases he0
    · rw [he] at he0
      simp only [pan, Ending.panicked.injEq, List.cons.injEq, PanicEntry.mk.injEq, Value.iface.injEq, Value.int.injEq, true_and, and_true] at he0
      subst he0
      have hb2 : Below w.heap.size w w1 := by
        rw [hw1]
        exact hb1.setCell (p := ⟨W0.heap.size, 0, none⟩) hsz _
      have HT : Hid (EncTells (val Ns) (val Es) 3 []) := .inr ⟨hi, rfl, rfl⟩
      have HB2 := Lib.hid hb2
      clear hi he hb2 hw1 hb hb1 HB0
      go_wp2
      go_ret2
      exact ⟨HB2.out, none, 0, _, [], rfl, World.ownsRow_nil _ _ _ _, HT.out⟩

/-! DerBack. -/
theorem KeyB.b8 {n e : Nat} {b : List Nat} (h : KeyB n e b) : B8 b := by
  obtain ⟨cn, ce, xn, xe, h1, h2, h3, h4, h5⟩ := h
  exact h5.b8 (by decide) (b8_app (h3.b8 (by decide) h1.b8) (h4.b8 (by decide) h2.b8))
theorem KeyB.len {n e : Nat} {b : List Nat} (h : KeyB n e b) (hn : n < 2 ^ 4096) (he : e < 2 ^ 4096) : 0 < b.length ∧ b.length ≤ 1046 := by
  obtain ⟨b', h', hl⟩ := KeyB.ex n e hn he
  rw [h.one h']
  obtain ⟨cn, ce, xn, xe, h1, h2, h3, h4, h5⟩ := h'
  have := (h5.of (post := [])).2.2.2
  exact ⟨by omega, hl⟩
set_option maxHeartbeats 800000 in
theorem samekey_any (a1 : Option Addr) (p c1 : Nat) (a2 : Option Addr) (q c2 : Nat) (b1 : Option Addr) (d1 : Nat) (b2 : Option Addr) (d2 : Nat) (X Y : List Nat) (w : World) (hX : X.length = p) (hp : p ≤ 1048576) (hY : Y.length = q) (hq : q ≤ 1048576) (h1 : Rd .u64 w a1 X) (h2 : Rd .u64 w a2 Y) (h3 : Rd .u64 w b1 X) (h4 : Rd .u64 w b2 Y) :
    Calls Tryz.prog 46 #[.agg #[.slice a1 p c1, .slice a2 q c2], .agg #[.slice b1 p d1, .slice b2 q d2]] w fun e w' => e = .returned (.bool true) ∧ Below w.heap.size w w' := by
  have H1 := Lib.hid (fun (W : World) (h : Below w.heap.size w W) => h1.below h)
  have H2 := Lib.hid (fun (W : World) (h : Below w.heap.size w W) => h2.below h)
  have H3 := Lib.hid (fun (W : World) (h : Below w.heap.size w W) => h3.below h)
  have H4 := Lib.hid (fun (W : World) (h : Below w.heap.size w W) => h4.below h)
  have HX := Lib.hid hX
  have HY := Lib.hid hY
  clear h1 h2 h3 h4 hX hY
  have HB := Lib.hid (((Below.refl w.heap.size w).alloc (Nat.le_refl _) (KO (.slice a1 p c1) (.slice a2 q c2))).alloc (by simp) (KO (.slice b1 p d1) (.slice b2 q d2)))
  have HA1 := Lib.hid (heap_alloc2_old w (KO (.slice a1 p c1) (.slice a2 q c2)) (KO (.slice b1 p d1) (.slice b2 q d2)))
  have HA2 := Lib.hid (heap_alloc2_new w (KO (.slice a1 p c1) (.slice a2 q c2)) (KO (.slice b1 p d1) (.slice b2 q d2)))
  obtain ⟨W2, hW2⟩ : ∃ W2, W2 = (w.alloc (KO (.slice a1 p c1) (.slice a2 q c2))).alloc (KO (.slice b1 p d1) (.slice b2 q d2)) := ⟨_, rfl⟩
  rw [← hW2] at HB HA1 HA2
  have HWW := Lib.hid hW2
  clear hW2
  go_enter Tryz.func46, Tryz.ntmps46
  go_wp2_with fail
  rw [← HWW.out]
  refine (words_same _ _ p _ _ X _ HX.out (by omega) (H1.out _ HB.out) (H3.out _ HB.out)).mono ?_
  rintro e w5 ⟨rfl, nq, hw⟩
  have hb7 : Below W2.heap.size W2 w5 := by rw [hw]; exact Below.drewM (Below.refl _ _) nq
  have HBF := Lib.hid (HB.out.trans (hb7.mono HB.out.size))
  obtain ⟨-, g1⟩ := KO.cells (KO.below HA1.out hb7)
  obtain ⟨-, g2⟩ := KO.cells (KO.below HA2.out hb7)
  clear hw hb7
  go_wp2_with fail
  refine (words_same _ _ q _ _ Y _ HY.out (by omega) (H2.out _ HBF.out) (H4.out _ HBF.out)).mono ?_
  rintro e w6 ⟨rfl, nq2, hw⟩
  have HBG : Hid (Below w.heap.size w w6) := by show Below _ _ _; rw [hw]; exact Below.drewM HBF.out nq2
  clear hw
  go_wp2
  go_ret
  exact ⟨rfl, HBG.out⟩

theorem hexD_low {d : Nat} (h : d < 16) : low (hexD d) = hexD d := by
  unfold low hexD
  repeat' split
  all_goals omega
theorem hexL_low : ∀ {b : List Nat}, B8 b → (hexL b).map low = hexL b
  | [], _ => rfl
  | x :: t, h => by
    have hx := h.head
    simp only [hexL, List.map_cons, hexD_low (show x / 16 < 16 by omega), hexD_low (show x % 16 < 16 by omega), hexL_low h.tail]
set_option exponentiation.threshold 5000 in
theorem KeyOk.lims {N E : Nat} (h : KeyOk N E) : N < 2 ^ 4096 ∧ E < 2 ^ 4096 := by
  have h1 := h.lim
  rw [← lim64K] at h1
  exact ⟨h1, Nat.lt_trans h.2.2.2.2.2 h1⟩
/-- The hex of a key's bytes as data. -/
theorem rd_hex {c d : List Nat} (h8 : B8 c) (hd : d.map low = hexL c) : RdT hexW d 0 c := .inl ⟨rfl, 0, .inl ⟨rfl, h8, hd.symm⟩, rfl⟩
theorem rd_b64 {c : List Nat} (h8 : B8 c) : RdT b64W (b64L c) 0 c := .inr ⟨rfl, 0, .inl ⟨rfl, h8, rfl⟩, rfl⟩
theorem num_self {N : List Nat} {n : Nat} (h : Num N n) : Num N (val N) := by rw [h.vl]; exact h
theorem got_of {e d c N E : List Nat} (hr : RdT e d 0 c) (hN : Num N (val N)) (hE : Num E (val E)) (hk : KeyOk (val N) (val E)) (hc : KeyB (val N) (val E) c) : GotTells e d 0 N E := by
  refine ⟨0, c, hr, .inr ⟨rfl, 0, N, E, KeyTells.yes (dec0_of hc hk.lims.1 hk.lims.2) hN hE, .inr (.inr ⟨rfl, hk, rfl, rfl, rfl⟩)⟩⟩
theorem GotTells.key {e d N E : List Nat} (h : GotTells e d 0 N E) : KeyOk (val N) (val E) ∧ Num N (val N) ∧ Num E (val E) := by
  obtain ⟨k1, b, h1, ⟨h2, h3, _⟩ | ⟨h2, k2, M, F, h3, h4⟩⟩ := h
  · exact absurd h3.symm h2
  · rcases h4 with ⟨h4, h5, _⟩ | ⟨h4, h5, h6, _⟩ | ⟨h4, h5, h6, rfl, rfl⟩
    · split at h5 <;> omega
    · omega
    · have := h3.2.1 h4
      exact ⟨h5, num_self this.1, num_self this.2⟩
/-- A text that is a key's in hex or base64, whichever letters are great. -/
theorem of_key {f e d c N E : List Nat} (hf : 58 ∉ f) (hl : f.map loA = rsaW ++ 45 :: e) (he : e = hexW ∨ e = b64W) (hs : (f ++ 58 :: d).length ≤ 65536) (hr : RdT e d 0 c) (hN : Num N (val N)) (hE : Num E (val E)) (hk : KeyOk (val N) (val E)) (hc : KeyB (val N) (val E) c) :
    OfTells (f ++ 58 :: d) 0 2 (keyW ++ hexL c) N E :=
  .inr (.inr (.inr (.inr ⟨hs, f, e, d, ⟨rfl, hf, hl, he⟩, got_of hr hN hE hk hc, .inr ⟨rfl, rfl, c, hc, rfl⟩⟩)))
/-- Who is meant by a normal text is who was meant. -/
theorem OfTells.again {l T N E : List Nat} {kind : Int} (h : OfTells l 0 kind T N E) : OfTells T 0 kind T N E := by
  rcases h with ⟨_, h, _⟩ | ⟨h0, h1, h2, rfl, rfl, rfl, rfl⟩ | ⟨h0, h1, h2, h3, rfl, rfl, rfl, rfl⟩ | ⟨h0, f, a, e, d, h1, h2, h3, h4, _⟩ | ⟨h0, f, e, d, h1, h2, h3⟩
  · omega
  · exact .inr (.inl ⟨h0, h1, rfl, rfl, rfl, rfl, rfl⟩)
  · exact .inr (.inr (.inl ⟨h0, h1, h2, rfl, rfl, rfl, rfl, rfl⟩))
  · omega
  · rcases h3 with ⟨h3, _⟩ | ⟨_, rfl, c, hc, rfl⟩
    · exact absurd rfl h3
    · obtain ⟨hk, hN, hE⟩ := h2.key
      have hl := hc.len hk.lims.1 hk.lims.2
      have h8 := hc.b8
      exact of_key (f := [114, 115, 97, 45, 104, 101, 120]) (by decide) rfl (.inl rfl) (by simp [hexL_len]; omega) (rd_hex h8 (hexL_low h8)) hN hE hk hc
theorem OfTells.kinds {l T N E : List Nat} {k kind : Int} (h : OfTells l k kind T N E) :
    (k ≠ 0 ∧ kind = 0 ∧ T = [] ∧ N = [] ∧ E = []) ∨ (k = 0 ∧ kind = 3 ∧ l = polW ∧ T = l ∧ N = [] ∧ E = []) ∨ (k = 0 ∧ kind = 1 ∧ l ≠ polW ∧ T = l ∧ N = [] ∧ E = []) ∨ (k = 0 ∧ kind = 2 ∧ l ≠ polW ∧ 0 < N.length ∧ 0 < E.length) := by
  rcases h with ⟨_, rfl, rfl, rfl, rfl, rfl⟩ | ⟨h0, h1, rfl, rfl, rfl, rfl, rfl⟩ | ⟨h0, h1, h2, rfl, rfl, rfl, rfl, rfl⟩ | ⟨h0, f, a, e, d, h1, h2, h3, rfl, rfl, rfl, rfl, rfl⟩ | ⟨h0, f, e, d, h1, h2, h3⟩
  · exact .inl ⟨by decide, rfl, rfl, rfl, rfl⟩
  · exact .inr (.inl ⟨rfl, rfl, h1, rfl, rfl, rfl⟩)
  · exact .inr (.inr (.inl ⟨rfl, rfl, h1, rfl, rfl, rfl⟩))
  · exact .inl ⟨by decide, rfl, rfl, rfl, rfl⟩
  · rcases h3 with ⟨h3, rfl, rfl⟩ | ⟨rfl, rfl, c, hc, rfl⟩
    · refine .inl ⟨h3, rfl, rfl, ?_⟩
      obtain ⟨k1, b, g1, ⟨_, _, g2⟩ | ⟨_, k2, M, F, _, ⟨_, _, g2⟩ | ⟨_, _, _, g2⟩ | ⟨_, _, g2, _⟩⟩⟩ := h2
      · exact g2
      · exact g2
      · exact g2
      · exact absurd g2 h3
    · obtain ⟨hk, hN, hE⟩ := h2.key
      refine .inr (.inr (.inr ⟨rfl, rfl, (fun e => by rw [e] at h1; exact pol_no h1), ?_, ?_⟩))
      · rcases N with _ | ⟨x, t⟩
        · have h5 := hk.1
          rw [show val [] = 0 from rfl] at h5
          exact absurd h5 (by decide)
        · simp
      · rcases E with _ | ⟨x, t⟩
        · have h5 := hk.2.2.2.2.1
          rw [show val [] = 0 from rfl] at h5
          exact absurd h5 (by decide)
        · simp
/-- Letters that may be great. -/
def Cs : List Nat → List Nat → Prop
  | [], [] => True
  | a :: l, b :: r => (b = a ∨ (97 ≤ a ∧ a ≤ 122 ∧ b + 32 = a)) ∧ Cs l r
  | _, _ => False
theorem Cs.snoc {a b : Nat} : ∀ {l r : List Nat}, Cs l r → (b = a ∨ (97 ≤ a ∧ a ≤ 122 ∧ b + 32 = a)) → Cs (l ++ [a]) (r ++ [b])
  | [], [], _, h => ⟨h, trivial⟩
  | _ :: _, _ :: _, h, g => ⟨h.1, Cs.snoc h.2 g⟩
theorem Cs.split : ∀ {l1 l2 r : List Nat}, Cs (l1 ++ l2) r → ∃ r1 r2, r = r1 ++ r2 ∧ Cs l1 r1 ∧ Cs l2 r2
  | [], _, r, h => ⟨[], r, rfl, trivial, h⟩
  | _ :: _, _, [], h => h.elim
  | _ :: l1, l2, b :: r, h => by
    obtain ⟨r1, r2, rfl, h1, h2⟩ := Cs.split (l1 := l1) (l2 := l2) (r := r) h.2
    exact ⟨b :: r1, r2, rfl, ⟨h.1, h1⟩, h2⟩
theorem Cs.len : ∀ {l r : List Nat}, Cs l r → r.length = l.length
  | [], [], _ => rfl
  | _ :: _, _ :: _, h => by simp [Cs.len h.2]
theorem Cs.b8 : ∀ {l r : List Nat}, Cs l r → B8 l → B8 r
  | [], [], _, _ => fun x hx => by cases hx
  | a :: l, b :: r, h, h8 => fun x hx => by
    have ha := h8.head
    rcases List.mem_cons.1 hx with rfl | hx
    · rcases h.1 with h1 | h1 <;> omega
    · exact Cs.b8 h.2 h8.tail x hx
theorem Cs.lo : ∀ {l r : List Nat}, Cs l r → (∀ c ∈ l, c < 65 ∨ 90 < c) → r.map loA = l
  | [], [], _, _ => rfl
  | a :: l, b :: r, h, g => by
    have ha := g a (by simp)
    rw [List.map_cons, Cs.lo h.2 (fun c hc => g c (by simp [hc]))]
    congr 1
    unfold loA
    rcases h.1 with h1 | h1 <;> split <;> omega
theorem Cs.low : ∀ {l r : List Nat}, Cs l r → (∀ c ∈ l, (48 ≤ c ∧ c ≤ 57) ∨ (97 ≤ c ∧ c ≤ 102)) → r.map Proofs.YtaookoejdnkkoaaGreatDoor.low = l
  | [], [], _, _ => rfl
  | a :: l, b :: r, h, g => by
    have ha := g a (by simp)
    rw [List.map_cons, Cs.low h.2 (fun c hc => g c (by simp [hc]))]
    congr 1
    unfold Proofs.YtaookoejdnkkoaaGreatDoor.low
    rcases h.1 with h1 | h1 <;> split <;> omega
/-- A front whose letters may be great. -/
theorem Cs.front {w d r : List Nat} (h : Cs (w ++ 58 :: d) r) (hw : ∀ c ∈ w, (c < 65 ∨ 90 < c) ∧ c ≠ 58) : ∃ f d', r = f ++ 58 :: d' ∧ 58 ∉ f ∧ f.map loA = w ∧ Cs d d' := by
  obtain ⟨f, r2, rfl, h1, h2⟩ := h.split
  cases r2 with
  | nil => exact h2.elim
  | cons b d' =>
    have hb : b = 58 := by have := h2.1; omega
    subst hb
    have hl := h1.lo (fun c hc => (hw c hc).1)
    refine ⟨f, d', rfl, fun hm => ?_, hl, h2.2⟩
    have : 58 ∈ w := by rw [← hl]; exact List.mem_map.2 ⟨58, hm, by decide⟩
    exact (hw 58 this).2 rfl

/-! The reference's words: small letters, fronts, ends. -/
set_option maxHeartbeats 1000000 in
set_option maxRecDepth 100000 in
theorem r9small (s : ByteArray) (n : Nat) (w : World) (hn : s.size = n) (hbig : n ≤ 1099511627776) :
    Calls Tryz.prog 101 #[.string s] w fun e w' => e = .returned (.string (strN ((bsN s).map loA))) ∧ Below w.heap.size w w' := by
  obtain ⟨l, hl⟩ : ∃ l, l = bsN s := ⟨_, rfl⟩
  have hll : l.length = n := by rw [hl, bsN_len, hn]
  have h8 : B8 l := by rw [hl]; exact bsN_8 s
  have HLS := Lib.hid hl
  rw [← hl]
  have HL := Lib.hid hll
  have H8 := Lib.hid h8
  clear hl hll h8
  go_enter Tryz.func101, Tryz.ntmps101
  go_wp2
  go_loopw [3, 4] (fun ov iv wr => ∃ i : Nat, i ≤ n ∧ iv = .int .i64 (i : Nat) ∧ Hid (wr.ownsRow w.heap.size 5 1 ov i (u8s ((l.take i).map loA))) ∧ Hid (Below w.heap.size w wr)) (fun _ iv _ => n - (intOf iv).toNat)
  case atStart => exact ⟨0, Nat.zero_le _, rfl, World.ownsRow_nil _ _ _ _, Below.refl _ _⟩
  case round =>
    obtain ⟨i, hi, rfl, HO, HB⟩ := hrel
    by_cases hin : i < n
    · obtain ⟨c, hc⟩ : ∃ c, c = at0 l i := ⟨_, rfl⟩
      have hil : i < l.length := by rw [HL.out]; exact hin
      have hc8 : c < 256 := by rw [hc]; exact H8.out.at0 _
      have x1 : ∀ W, (Instr.index 9 (.string s) (.int .i64 (i : Int))).run Tryz.prog W = .ok (.int .u8 (c : Nat)) W := idx_str 9 Tryz.underlying9 s i c (by omega) (by rw [← HLS.out, hc])
      obtain ⟨T, hT⟩ : ∃ T, T = (l.take i).map loA := ⟨_, rfl⟩
      obtain ⟨d, hd⟩ : ∃ d, d = loA c := ⟨_, rfl⟩
      have HT1 : Hid ((l.take (i + 1)).map loA = T ++ [d]) := by show _ = _; rw [take_succ_at0 hil, List.map_append, List.map_cons, List.map_nil, ← hT, hd, hc]
      rw [← hT] at HO
      have hBs := HB.out.size
      have hdc : (65 ≤ c ∧ c ≤ 90 ∧ d = c + 32) ∨ ((c < 65 ∨ (65 ≤ c ∧ 90 < c)) ∧ d = c) := by
        rw [hd]; unfold loA; split <;> omega
      clear hc hil hT hd
      have key : ∀ (W : World) (v : Value), True := fun _ _ => trivial
      rcases hdc with ⟨u1, u2, u3⟩ | ⟨u1 | ⟨u1, u2⟩, u3⟩
      · have e1 : IntKind.u8.wrap ((c : Int) + 97) = (c : Int) + 97 := by
          rw [show ((c : Int) + 97) = ((c + 97 : Nat) : Int) by omega]; exact wrap_u8_in (c + 97) (by omega)
        have e2 : IntKind.u8.wrap ((c : Int) + 97 - 65) = (d : Int) := by
          rw [show ((c : Int) + 97 - 65) = ((d : Nat) : Int) by omega]; exact wrap_u8_in d (by omega)
        clear u3
        go_wp2_with (at_builtin; refine wpl_app 40 5 Tryz.underlying40 info8 rfl (by decide) rfl _ _ rfl w.heap.size _ i (u8s T) rfl (HO.out.alloc _) wr.heap.size _ rfl (World.cell?_alloc_at _ _ _ _ rfl) rfl (by omega) (by simp; omega) ?_; intro g cap' w1 hown1 hg1 hBg _ _)
        have HO2 : Hid (w1.ownsRow w.heap.size 5 1 (.slice (some ⟨g, 0, none⟩) (i + 1) cap') (i + 1) (u8s (T ++ [d]))) := by show w1.ownsRow _ _ _ _ _ _; rw [show u8s (T ++ [d]) = u8s T ++ [.int .u8 (d : Nat)] by simp [u8s]]; exact hown1
        have HB2 : Hid (Below w.heap.size w w1) := (HB.out.alloc (by omega) _).grown hg1 (by simp; omega) (fun j hj => (World.ownsRow.lt HO.out j hj).1)
        rw [← HT1.out] at HO2
        clear hown1 hg1
        go_wp2
        go_roundw
        case rel => exact ⟨i + 1, by omega, by go_num, HO2.out, HB2.out⟩
        case measure => simp [intOf]; omega
      all_goals
        subst u3
        go_wp2_with (at_builtin; refine wpl_app 40 5 Tryz.underlying40 info8 rfl (by decide) rfl _ _ rfl w.heap.size _ i (u8s T) rfl (HO.out.alloc _) wr.heap.size _ rfl (World.cell?_alloc_at _ _ _ _ rfl) rfl (by omega) (by simp; omega) ?_; intro g cap' w1 hown1 hg1 hBg _ _)
        have HO2 : Hid (w1.ownsRow w.heap.size 5 1 (.slice (some ⟨g, 0, none⟩) (i + 1) cap') (i + 1) (u8s (T ++ [d]))) := by show w1.ownsRow _ _ _ _ _ _; rw [show u8s (T ++ [d]) = u8s T ++ [.int .u8 (d : Nat)] by simp [u8s]]; exact hown1
        have HB2 : Hid (Below w.heap.size w w1) := (HB.out.alloc (by omega) _).grown hg1 (by simp; omega) (fun j hj => (World.ownsRow.lt HO.out j hj).1)
        rw [← HT1.out] at HO2
        clear hown1 hg1
        go_wp2
        go_roundw
        case rel => exact ⟨i + 1, by omega, by go_num, HO2.out, HB2.out⟩
        case measure => simp [intOf]; omega
    · obtain rfl : i = n := by omega
      have hO := HO.out
      rw [List.take_of_length_le (by rw [HL.out]; exact Nat.le_refl _)] at hO
      have ht := own_text hO (by rw [List.length_map]; exact HL.out)
      clear hO HO
      go_wp2
      go_ret
      exact ⟨rfl, HB.out⟩

theorem split_at {l : List Nat} {i : Nat} (h : i < l.length) : l = l.take i ++ at0 l i :: l.drop (i + 1) := by
  rw [at0_getElem h, ← List.drop_eq_getElem_cons h, List.take_append_drop]
theorem not_mem_step {l : List Nat} {i c : Nat} (h : i < l.length) (h1 : c ∉ l.take i) (h2 : at0 l i ≠ c) : c ∉ l.take (i + 1) := by
  rw [take_succ_at0 h, List.mem_append]
  rintro (h3 | h3)
  · exact h1 h3
  · simp at h3; exact h2 h3.symm
theorem below_drw {w w' : World} (h : Below w.drew.heap.size w.drew w') : Below w.heap.size w w' := ((Below.refl _ _).drew).trans h
/-- A text cut at its first colon, the front in small letters. -/
def FrontT (l : List Nat) (e : Ending) : Prop :=
  (∃ f d, l = f ++ 58 :: d ∧ 58 ∉ f ∧ e = .returned (.tuple #[.string (strN (f.map loA)), .string (strN d), .bool true])) ∨ (58 ∉ l ∧ e = .returned (.tuple #[.string ⟨#[]⟩, .string ⟨#[]⟩, .bool false]))
theorem ext_str (s : ByteArray) (a b : Nat) : s.extract a b = strN (((bsN s).drop a).take (b - a)) := by
  rw [← bsN_extract, strN_bsN]
set_option maxHeartbeats 1000000 in
set_option maxRecDepth 100000 in
theorem r9front (s : ByteArray) (n : Nat) (w : World) (hn : s.size = n) (hbig : n ≤ 1099511627776) :
    Calls Tryz.prog 50 #[.string s] w fun e w' => FrontT (bsN s) e ∧ Below w.heap.size w w' := by
  obtain ⟨l, hl⟩ : ∃ l, l = bsN s := ⟨_, rfl⟩
  have hll : l.length = n := by rw [hl, bsN_len, hn]
  have HLS := Lib.hid hl
  rw [← hl]
  have HL := Lib.hid hll
  clear hl hll
  go_enter Tryz.func50, Tryz.ntmps50
  go_wp2
  go_loopw [5] (fun iv wr => ∃ i : Nat, i ≤ n ∧ iv = .int .i64 (i : Nat) ∧ Hid (58 ∉ l.take i) ∧ Hid (Below w.heap.size w wr)) (fun iv _ => n - (intOf iv).toNat)
  case atStart => exact ⟨0, Nat.zero_le _, rfl, (by show 58 ∉ _; simp), Below.refl _ _⟩
  case round =>
    obtain ⟨i, hi, rfl, HN, HB⟩ := hrel
    by_cases hin : i < n
    · obtain ⟨c, hc⟩ : ∃ c, c = at0 l i := ⟨_, rfl⟩
      have hil : i < l.length := by rw [HL.out]; exact hin
      have x1 : ∀ W, (Instr.index 9 (.string s) (.int .i64 (i : Int))).run Tryz.prog W = .ok (.int .u8 (c : Nat)) W := idx_str 9 Tryz.underlying9 s i c (by omega) (by rw [← HLS.out, hc])
      by_cases h58 : c = 58
      · have hq : ((c : Int) == 58) = true := by simp [h58]
        have HF : Hid (l = l.take i ++ 58 :: l.drop (i + 1)) := by
          show _ = _
          have := split_at hil
          rwa [← hc, h58] at this
        have e1 : (s.extract 0 i).size = i := by rw [ByteArray.size_extract]; omega
        have HE1 : Hid (bsN (s.extract 0 i) = l.take i) := by show _ = _; rw [bsN_extract, ← HLS.out]; simp
        have HE2 : Hid (s.extract (i + 1) n = strN (l.drop (i + 1))) := by
          show _ = _
          rw [ext_str, ← HLS.out, List.take_of_length_le (by rw [List.length_drop, HL.out]; omega)]
        have c1 : (0 : Int) ≤ (i : Int) := by omega
        have c2 : (i : Int) ≤ (s.size : Int) := by omega
        have c3 : (0 : Int) ≤ (i : Int) + 1 := by omega
        have c4 : (i : Int) + 1 ≤ (s.size : Int) := by omega
        have c5 : IntKind.i64.wrap ((i : Int) + 1) = (i : Int) + 1 := by rw [show ((i : Int) + 1) = ((i + 1 : Nat) : Int) by omega]; exact wrap_i64_nat _ (by omega)
        have c6 : (i : Int) + 1 ≤ (n : Int) := by omega
        clear hc hil h58
        go_wp2
        go_region_with (go_at_call 101; refine (r9small _ i _ e1 (by omega)).mono ?_; rintro e w' ⟨rfl, hb⟩)
        all_goals
          rw [HE1.out, HE2.out]
          go_wp2
          go_ret3
          exact ⟨.inl ⟨_, _, HF.out, HN.out, rfl⟩, HB.out.trans ((below_drw hb).mono HB.out.size)⟩
      · have hq : ((c : Int) == 58) = false := by simp; omega
        have HN2 : Hid (58 ∉ l.take (i + 1)) := not_mem_step hil HN.out (by omega)
        clear hc hil
        go_wp2
        go_roundw
        case rel => exact ⟨i + 1, by omega, by go_num, HN2.out, HB.out⟩
        case measure => simp [intOf]; omega
    · obtain rfl : i = n := by omega
      have hno := HN.out
      rw [List.take_of_length_le (by rw [HL.out]; exact Nat.le_refl _)] at hno
      have HNO := Lib.hid hno
      clear hno
      go_wp2
      go_ret3
      exact ⟨.inr ⟨HNO.out, rfl⟩, HB.out⟩

/-! The reference's words: plain, ends. -/
set_option maxHeartbeats 1000000 in
set_option maxRecDepth 100000 in
theorem r9plain (s : ByteArray) (n : Nat) (w : World) (hn : s.size = n) (hbig : n ≤ 1099511627776) :
    Calls Tryz.prog 90 #[.string s] w fun e w' => ((plainL (bsN s) ∧ e = .returned (.bool true)) ∨ (¬ plainL (bsN s) ∧ e = .returned (.bool false))) ∧ Below w.heap.size w w' := by
  obtain ⟨l, hl⟩ : ∃ l, l = bsN s := ⟨_, rfl⟩
  have hll : l.length = n := by rw [hl, bsN_len, hn]
  have HLS := Lib.hid hl
  rw [← hl]
  have HL := Lib.hid hll
  clear hl hll
  go_enter Tryz.func90, Tryz.ntmps90
  go_wp2
  go_loopw [3] (fun iv wr => ∃ i : Nat, i ≤ n ∧ iv = .int .i64 (i : Nat) ∧ Hid (∀ c ∈ l.take i, isLD c) ∧ Hid (Below w.heap.size w wr)) (fun iv _ => n - (intOf iv).toNat)
  case atStart => exact ⟨0, Nat.zero_le _, rfl, (by show ∀ c ∈ l.take 0, _; simp), Below.refl _ _⟩
  case round =>
    obtain ⟨i, hi, rfl, HN, HB⟩ := hrel
    by_cases hin : i < n
    · obtain ⟨c, hc⟩ : ∃ c, c = at0 l i := ⟨_, rfl⟩
      have hil : i < l.length := by rw [HL.out]; exact hin
      have x1 : ∀ W, (Instr.index 9 (.string s) (.int .i64 (i : Int))).run Tryz.prog W = .ok (.int .u8 (c : Nat)) W := idx_str 9 Tryz.underlying9 s i c (by omega) (by rw [← HLS.out, hc])
      have HC : Hid (c ∈ l) := by show c ∈ l; rw [hc, at0_getElem hil]; exact List.getElem_mem _
      have HT : Hid (l.take (i + 1) = l.take i ++ [c]) := by show _ = _; rw [take_succ_at0 hil, hc]
      clear hc hil
      rcases (show c < 48 ∨ (48 ≤ c ∧ c ≤ 57 ∧ c < 97) ∨ (57 < c ∧ c < 97 ∧ 48 ≤ c) ∨ (97 ≤ c ∧ c ≤ 122) ∨ (122 < c ∧ 97 ≤ c ∧ 57 < c ∧ 48 ≤ c) by omega) with u1 | ⟨u1, u2, u3⟩ | ⟨u1, u2, u3⟩ | ⟨u1, u2⟩ | ⟨u1, u2, u3, u4⟩
      · have u2 : c < 97 := by omega
        have HP : Hid (¬ plainL l) := fun h => by have := h.2 c HC.out; unfold isLD at this; omega
        go_wp2
        go_ret
        exact ⟨.inr ⟨HP.out, rfl⟩, HB.out⟩
      · have HN2 : Hid (∀ x ∈ l.take (i + 1), isLD x) := by
          show ∀ x ∈ l.take (i + 1), isLD x
          rw [HT.out]
          intro x hx
          rcases List.mem_append.1 hx with h | h
          · exact HN.out x h
          · simp at h; rw [h]; exact .inr ⟨u1, u2⟩
        go_wp2
        go_roundw
        case rel => exact ⟨i + 1, by omega, by go_num, HN2.out, HB.out⟩
        case measure => simp [intOf]; omega
      · have HP : Hid (¬ plainL l) := fun h => by have := h.2 c HC.out; unfold isLD at this; omega
        go_wp2
        go_ret
        exact ⟨.inr ⟨HP.out, rfl⟩, HB.out⟩
      · have HN2 : Hid (∀ x ∈ l.take (i + 1), isLD x) := by
          show ∀ x ∈ l.take (i + 1), isLD x
          rw [HT.out]
          intro x hx
          rcases List.mem_append.1 hx with h | h
          · exact HN.out x h
          · simp at h; rw [h]; exact .inl ⟨u1, u2⟩
        go_wp2
        go_roundw
        case rel => exact ⟨i + 1, by omega, by go_num, HN2.out, HB.out⟩
        case measure => simp [intOf]; omega
      · have HP : Hid (¬ plainL l) := fun h => by have := h.2 c HC.out; unfold isLD at this; omega
        go_wp2
        go_ret
        exact ⟨.inr ⟨HP.out, rfl⟩, HB.out⟩
    · obtain rfl : i = n := by omega
      have hno := HN.out
      rw [List.take_of_length_le (by rw [HL.out]; exact Nat.le_refl _)] at hno
      have HNO : Hid (∀ c ∈ l, isLD c) := hno
      clear hno
      by_cases h0 : i = 0
      · have HP : Hid (¬ plainL l) := fun h => h.1 (List.eq_nil_of_length_eq_zero (by rw [HL.out]; exact h0))
        have hq : decide ((0 : Int) < (i : Int)) = false := decide_eq_false (by omega)
        clear h0
        go_wp2
        go_ret
        exact ⟨.inr ⟨HP.out, by rw [show decide (0 < i) = false from decide_eq_false (by simpa using hq)]; rfl⟩, HB.out⟩
      · have HP : Hid (plainL l) := ⟨fun h => h0 (by rw [← HL.out, h]; rfl), HNO.out⟩
        have hq : decide ((0 : Int) < (i : Int)) = true := decide_eq_true (by omega)
        clear h0
        go_wp2
        go_ret
        exact ⟨.inl ⟨HP.out, by rw [show decide (0 < i) = true from decide_eq_true (by simpa using hq)]; rfl⟩, HB.out⟩
/-- What stands ahead of an end. -/
def EndT (l t : List Nat) (e : Ending) : Prop :=
  (∃ a, l = a ++ t ∧ e = .returned (.tuple #[.string (strN a), .bool true])) ∨ ((∀ a, l ≠ a ++ t) ∧ e = .returned (.tuple #[.string ⟨#[]⟩, .bool false]))
theorem beq_str (s t : ByteArray) : (s.toList == t.toList) = decide (bsN s = bsN t) := by
  by_cases he : bsN s = bsN t
  · have : s = t := by rw [← strN_bsN s, he, strN_bsN]
    subst this
    simp
  · rw [decide_eq_false he, beq_eq_false_iff_ne]
    intro h
    refine he ?_
    have h1 : s.data.toList = t.data.toList := by
      rw [← ByteArray.toList_eq, ← ByteArray.toList_eq]; exact h
    unfold bsN
    rw [h1]
theorem beq_lit (s : ByteArray) (L : List UInt8) : (s.toList == L) = decide (bsN s = L.map UInt8.toNat) := by
  have h := beq_str s ⟨L.toArray⟩
  rw [ByteArray.toList_eq (bs := ⟨L.toArray⟩), show bsN ⟨L.toArray⟩ = L.map UInt8.toNat by simp [bsN]] at h
  rw [← h]
theorem end_split {l t : List Nat} (h : t.length ≤ l.length) (he : l.drop (l.length - t.length) = t) : l = l.take (l.length - t.length) ++ t := by
  conv => lhs; rw [← List.take_append_drop (l.length - t.length) l]
  rw [he]
theorem end_no {l t a : List Nat} (h : l = a ++ t) : t.length ≤ l.length ∧ l.drop (l.length - t.length) = t := by
  rw [h]
  refine ⟨by simp, ?_⟩
  rw [List.length_append, Nat.add_sub_cancel, List.drop_append_of_le_length (Nat.le_refl _), List.drop_length, List.nil_append]
set_option maxHeartbeats 1000000 in
set_option maxRecDepth 100000 in
theorem r9ends (s t : ByteArray) (n m : Nat) (w : World) (hn : s.size = n) (hm : t.size = m) (hbig : n ≤ 1099511627776) (hbm : m ≤ 1099511627776) :
    Calls Tryz.prog 89 #[.string s, .string t] w fun e w' => EndT (bsN s) (bsN t) e ∧ Below w.heap.size w w' := by
  have hl : (bsN s).length = n := by rw [bsN_len, hn]
  have hk : (bsN t).length = m := by rw [bsN_len, hm]
  have HL := Lib.hid hl
  have HK := Lib.hid hk
  clear hl hk
  have e0 : IntKind.i64.wrap ((n : Int) - (m : Int)) = (n : Int) - (m : Int) := by simp only [IntKind.wrap, IntKind.signed, IntKind.bits]; simp; omega
  by_cases hlt : n < m
  · have HP : Hid (∀ a, bsN s ≠ a ++ bsN t) := fun a h => by have := (end_no h).1; rw [HL.out, HK.out] at this; omega
    have hq : decide ((n : Int) - (m : Int) < 0) = true := decide_eq_true (by omega)
    go_enter Tryz.func89, Tryz.ntmps89
    go_wp2
    go_ret2
    exact ⟨.inr ⟨HP.out, rfl⟩, Below.refl _ _⟩
  · obtain ⟨k, hk⟩ : ∃ k, k = n - m := ⟨_, rfl⟩
    have e1 : (n : Int) - (m : Int) = (k : Int) := by omega
    rw [e1] at e0
    have HX : Hid (bsN (s.extract k n) = (bsN s).drop ((bsN s).length - (bsN t).length)) := by
      show _ = _
      rw [bsN_extract, HL.out, HK.out, ← hk, List.take_of_length_le (by rw [List.length_drop, HL.out]; exact Nat.le_refl _)]
    have HY : Hid (s.extract 0 k = strN ((bsN s).take ((bsN s).length - (bsN t).length))) := by
      show _ = _
      rw [ext_str, HL.out, HK.out, ← hk, List.drop_zero, Nat.sub_zero]
    have hq : decide ((k : Int) < 0) = false := decide_eq_false (by omega)
    have c1 : (0 : Int) ≤ (k : Int) := by omega
    have c2 : (k : Int) ≤ (n : Int) := by omega
    have HKK := Lib.hid hk
    by_cases he : (bsN s).drop ((bsN s).length - (bsN t).length) = bsN t
    · have hb : ((s.extract k n).toList == t.toList) = true := by rw [beq_str, HX.out]; exact decide_eq_true he
      have HS : Hid (bsN s = (bsN s).take ((bsN s).length - (bsN t).length) ++ bsN t) := end_split (by rw [HL.out, HK.out]; omega) he
      clear he hk hlt
      go_enter Tryz.func89, Tryz.ntmps89
      go_wp2
      rw [HY.out]
      go_ret2
      exact ⟨.inl ⟨_, HS.out, rfl⟩, Below.refl _ _⟩
    · have hb : ((s.extract k n).toList == t.toList) = false := by rw [beq_str, HX.out]; exact decide_eq_false he
      have HP : Hid (∀ a, bsN s ≠ a ++ bsN t) := fun a h => he (end_no h).2
      clear he hk hlt
      go_enter Tryz.func89, Tryz.ntmps89
      go_wp2
      go_ret2
      exact ⟨.inr ⟨HP.out, rfl⟩, Below.refl _ _⟩
end Go.Proofs.YtaookoejdnkkoaaGreatDoor
