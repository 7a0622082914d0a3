import Derived.Test.YtaookoejdnkkoaaDoorQ09
import Derived.Test.YtaookoejdnkkoaaDoorQ08
import Derived.Test.YtaookoejdnkkoaaDoorQ10
import Derived.Test.YtaookoejdnkkoaaDoorQ07
namespace Go.Proofs.YtaookoejdnkkoaaDoor
open Go.RowKit

/-! The reference: Check, Size, a number in so many bytes. -/
theorem Raw.bits {w : World} {v : Value} {n : Nat} (h : Raw w v n) : bitsN n ≤ 64000 := by
  obtain ⟨a, c, zs, rfl, h1, _, hr, hb, rfl, hl⟩ := h
  have h2 := (fl_iff hb (k := 1000)).1 (by have := (fl_spec zs).1; omega)
  exact (bits_fits (bits_is _) (m := 1000)).2 h2
theorem head_cell {w : World} {a : Option Addr} {x : Nat} {t : List Nat} (h : Rd .u64 w a (x :: t)) : ∃ b off, a = some ⟨b, off, none⟩ ∧ w.cell? ⟨b, off, none⟩ = some (.int .u64 (x : Nat)) := by
  obtain ⟨b, off, rfl⟩ := h.isAt (by simp)
  have hc := h.cell (i := 0) (by simp)
  exact ⟨b, off, rfl, by simpa [at0] using hc⟩
theorem num_cons {zs : List Nat} {N : Nat} (h : Num zs N) (h0 : 0 < N) : ∃ x t, zs = x :: t ∧ x % 2 = N % 2 := by
  cases zs with
  | nil => exfalso; have := h.vl; simp [val] at this; omega
  | cons x t => exact ⟨x, t, rfl, by rw [← h.vl, val_cons]; omega⟩
theorem mod2_cases (x : Nat) : (x % 2 = 0 ∧ (x : Int) % 2 = 0 ∧ (x : Int).tmod 2 = 0) ∨ (x % 2 = 1 ∧ (x : Int) % 2 = 1 ∧ (x : Int).tmod 2 = 1) := by
  rcases (show x % 2 = 0 ∨ x % 2 = 1 by omega) with h | h
  · exact .inl ⟨h, by omega, by rw [Int.tmod_eq_emod_of_nonneg (by omega)]; omega⟩
  · exact .inr ⟨h, by omega, by rw [Int.tmod_eq_emod_of_nonneg (by omega)]; omega⟩
/-- Two digits a byte. -/
def pairUp : List Nat → List Nat
  | [] => []
  | [a] => [a]
  | a :: b :: t => (16 * a + b) :: pairUp t
def D16 (l : List Nat) : Prop := ∀ x ∈ l, x < 16
theorem pairUp_len : ∀ l : List Nat, (pairUp l).length = (l.length + 1) / 2
  | [] => rfl
  | [_] => by simp [pairUp]
  | _ :: _ :: t => by simp only [pairUp, List.length_cons, pairUp_len t]; omega
theorem pairUp_hex : ∀ l : List Nat, D16 l → l.length % 2 = 0 → hexL (pairUp l) = l.map hexD
  | [], _, _ => rfl
  | [_], _, h => by simp at h
  | a :: b :: t, hd, h => by
    have ha := hd a (by simp)
    have hb := hd b (by simp)
    have e := pairUp_hex t (fun x hx => hd x (by simp [hx])) (by simp at h; omega)
    simp only [pairUp, hexL, List.map_cons, e]
    rw [show (16 * a + b) / 16 = a by omega, show (16 * a + b) % 16 = b by omega]
theorem pairUp_8 : ∀ l : List Nat, D16 l → B8 (pairUp l)
  | [], _ => fun x hx => by cases hx
  | [a], hd => fun x hx => by
    have ha := hd a (by simp)
    simp [pairUp] at hx
    omega
  | a :: b :: t, hd => fun x hx => by
    have ha := hd a (by simp)
    have hb := hd b (by simp)
    simp only [pairUp, List.mem_cons] at hx
    rcases hx with rfl | hx
    · omega
    · exact pairUp_8 t (fun x hx => hd x (by simp [hx])) x hx
/-- One digit more. -/
theorem pairUp_step : ∀ (l : List Nat) (w r : Nat), D16 l → w < 16 → l.length % 2 = 0 ∧ 0 < r ∨ l.length % 2 = 1 →
    ∃ x, x < 16 ∧ at0 (pairUp l ++ List.replicate r 0) (l.length / 2) = x ∧
      (pairUp l ++ List.replicate r 0).set (l.length / 2) (x * 16 + w) = pairUp (l ++ [w]) ++ List.replicate (r - (1 - l.length % 2)) 0
  | [], w, r, _, _, h => by
    obtain ⟨n, rfl⟩ : ∃ n, r = n + 1 := ⟨r - 1, by simp at h; omega⟩
    refine ⟨0, by omega, rfl, ?_⟩
    simp [pairUp, List.replicate_succ]
  | [a], w, r, hd, _, _ => by
    refine ⟨a, hd a (by simp), by simp [pairUp, at0], ?_⟩
    simp only [pairUp, List.length_cons, List.length_nil, List.cons_append, List.nil_append]
    simp
    omega
  | a :: b :: t, w, r, hd, hw, h => by
    obtain ⟨x, hx, e1, e2⟩ := pairUp_step t w r (fun x hx => hd x (by simp [hx])) hw (by simp at h; omega)
    have e3 : (a :: b :: t).length / 2 = t.length / 2 + 1 := by simp only [List.length_cons]; omega
    have e4 : (a :: b :: t).length % 2 = t.length % 2 := by simp only [List.length_cons]; omega
    refine ⟨x, hx, ?_, ?_⟩
    · rw [e3]
      show at0 ((16 * a + b) :: (pairUp t ++ List.replicate r 0)) (t.length / 2 + 1) = x
      rw [at0_cons_succ]
      exact e1
    · rw [e3, e4]
      show ((16 * a + b) :: (pairUp t ++ List.replicate r 0)).set (t.length / 2 + 1) (x * 16 + w) = _
      rw [List.set_cons_succ, e2]
      rfl
theorem hexL_mem : ∀ (c : List Nat), B8 c → ∀ x ∈ hexL c, ∃ d, d < 16 ∧ x = hexD d
  | [], _, x, hx => by cases hx
  | b :: t, h, x, hx => by
    have hb := h.head
    simp only [hexL, List.mem_cons] at hx
    rcases hx with rfl | rfl | hx
    · exact ⟨b / 16, by omega, rfl⟩
    · exact ⟨b % 16, by omega, rfl⟩
    · exact hexL_mem t h.tail x hx
theorem unhex_odd {l : List Nat} (h : l.length % 2 = 1) : UnhexTells l 60 [] := .inr ⟨rfl, rfl, fun c _ he => by
  have := congrArg List.length he
  rw [hexL_len, List.length_map] at this
  omega⟩
theorem unhex_no {l : List Nat} {i : Nat} (h : i < l.length) (hn : ∀ d, d < 16 → hexD d ≠ low (at0 l i)) : UnhexTells l 60 [] := .inr ⟨rfl, rfl, fun c hc he => by
  have h1 : low (at0 l i) ∈ hexL c := by rw [he, at0_getElem h]; exact List.mem_map_of_mem (List.getElem_mem h)
  obtain ⟨d, hd, e⟩ := hexL_mem c hc _ h1
  exact hn d hd e.symm⟩
theorem unhex_high {l : List Nat} {i : Nat} (h : i < l.length) (hn : 128 ≤ at0 l i) : UnhexTells l 60 [] := unhex_no h fun d hd e => by
  have h1 := hexD_lt hd
  rw [e] at h1
  have := low_of_lt h1
  omega
theorem unhex_yes {l ws : List Nat} (hd : D16 ws) (hm : ws.map hexD = l.map low) (h : l.length % 2 = 0) : UnhexTells l 0 (pairUp ws) := .inl ⟨rfl, pairUp_8 ws hd, by
  have hl : ws.length = l.length := by simpa using congrArg List.length hm
  rw [pairUp_hex ws hd (by omega), hm]⟩
theorem Chg.iterAt (w : World) (k : Nat) (s : ByteArray) (p : Nat) : Chg (fun i => i = k) w (w.iterAt k s p) := ⟨rfl, rfl, rfl, by rw [Lib.iterAt_size]; exact Nat.le_refl _, fun i _ hi => Lib.iterAt_other w k i s p hi⟩
theorem or4 (x w : Nat) (hx : x < 16) (hw : w < 16) : bits BinOp.or IntKind.u8 ((x : Int) * 16 % 256) (w : Int) = ((x * 16 + w : Nat) : Int) := by
  have : ∀ x w : Fin 16, bits BinOp.or IntKind.u8 ((x.val : Int) * 16 % 256) (w.val : Int) = ((x.val * 16 + w.val : Nat) : Int) := by decide
  exact this ⟨x, hx⟩ ⟨w, hw⟩
theorem bsN_at (s : ByteArray) (i : Nat) (h : i < s.size) : at0 (bsN s) i = (s[i]'h).toNat := by
  rw [at0_getElem (by rw [bsN_len]; exact h)]
  simp only [bsN, List.getElem_map]
  rfl

def UnhexPost (l : List Nat) (w : World) (e : Ending) (w' : World) : Prop :=
  Below w.heap.size w w' ∧ ∃ v k b, e = .returned (.tuple #[v, .int .i64 k]) ∧ own8 w' w.heap.size v b ∧ UnhexTells l k b ∧ b.length ≤ l.length
theorem UnhexPost.no {l : List Nat} {w w' : World} (hb : Below w.heap.size w w') (h : UnhexTells l 60 []) : UnhexPost l w (.returned (.tuple #[.slice none 0 0, .int .i64 60])) w' :=
  ⟨hb, _, _, [], rfl, World.ownsRow_nil _ _ _ _, h, Nat.zero_le _⟩

set_option maxHeartbeats 2000000 in
set_option maxRecDepth 100000 in
theorem unhex_any (s : ByteArray) (n : Nat) (w : World) (hn : s.size = n) (hbig : n ≤ 1099511627776) (hT : HT w) :
    Calls Tryd.prog 64 #[.string s] w (UnhexPost (bsN s) w) := by
  have hbl := bsN_len s
  obtain ⟨l, hl⟩ : ∃ l, l = bsN s := ⟨_, rfl⟩
  rw [← hl] at hbl ⊢
  rw [hn] at hbl
  have HSZ := Lib.hid hn
  have HLS := Lib.hid hl
  have HT0 := Lib.hid hT
  have HLN := Lib.hid hbl
  clear hT
  by_cases hodd : n % 2 = 1
  · have hq : ((n : Int) % 2 != 0) = true := by simp; omega
    have hp : UnhexTells l 60 [] := unhex_odd (by rw [hbl]; exact hodd)
    have HP := Lib.hid hp
    clear hp hl hbl
    go_enter Tryd.func64, Tryd.ntmps64
    go_wp2
    go_ret2
    exact UnhexPost.no (Below.refl _ _) HP.out
  · obtain ⟨m, hm⟩ : ∃ m, n = 2 * m := ⟨n / 2, by omega⟩
    have hq : ((n : Int) % 2 != 0) = false := by simp; omega
    have hq2 : (n : Int) / 2 = (m : Int) := by omega
    have HM := Lib.hid hm
    clear hm hl hbl hodd
    go_enter Tryd.func64, Tryd.ntmps64
    go_wp2_with (at_make; refine wpl_make8s rfl _ _ rfl w.heap.size _ _ _ _ m rfl rfl (by omega) (by omega) (by have := HM.out; omega) (Nat.le_refl _) ?_; intro w1 hown1 hb1 hlt1)
    have hit1 := World.iter_heap w1 s 0
    have hown2 := World.ownsRow.alloc hown1 (.stringIter s 0)
    have hb2 : Below w.heap.size w (w1.iter s 0) := hb1.alloc (by omega) _
    have HI := Lib.hid hit1
    have HO := Lib.hid hown2
    have HB := Lib.hid hb2
    have hgl : w.heap.size < w1.heap.size := hlt1
    clear hit1 hown1 hown2 hb1 hb2 hlt1
    obtain ⟨K, hK⟩ : ∃ K, K = w1.heap.size := ⟨_, rfl⟩
    rw [← hK] at HI hgl ⊢
    have HK := Lib.hid hK
    clear hK
    go_loopw [] (fun wr => ∃ (p : Nat) (ws : List Nat), p ≤ n ∧ Hid (ws.length = p) ∧ Hid (D16 ws) ∧ Hid (ws.map hexD = (l.take p).map low) ∧ Hid (wr.heap[K]? = some (.stringIter s p)) ∧
      Hid (wr.ownsRow w.heap.size 5 1 (.slice (some ⟨w.heap.size, 0, none⟩) m m) m (u8s (pairUp ws ++ List.replicate (m - (p + 1) / 2) 0))) ∧ Hid (Below w.heap.size w wr)) (fun wr => n - wr.iterPos K)
    case atStart => exact ⟨0, [], Nat.zero_le _, rfl, (fun x hx => by cases hx), rfl, HI.out, HO.out, HB.out⟩
    case round =>
      obtain ⟨p, ws, hp, HW, HD, HWM, HI, HO, HB⟩ := hrel
      have hitp : wr.iterPos K = p := by simp [World.iterPos, HI.out]
      by_cases hpn : p < n
      · have hsz := (Array.getElem?_eq_some_iff.1 HI.out).1
        have hps : p < s.size := by omega
        obtain ⟨c, hc⟩ : ∃ c, c = (s[p]'hps).toNat := ⟨_, rfl⟩
        have hat : at0 l p = c := by rw [HLS.out, bsN_at s p hps, hc]
        have HAT := Lib.hid hat
        clear hat
        by_cases hc7 : c < 128
        · have hnx0 := fun ty => Lib.run_next_ascii_at (P := Tryd.prog) wr K s p ty HI.out hps (by omega)
          rw [← hc] at hnx0
          obtain ⟨w2, hw2⟩ : ∃ w2, w2 = wr.iterAt K s (p + 1) := ⟨_, rfl⟩
          have c2 : Chg (fun i => i = K) wr w2 := by rw [hw2]; exact Chg.iterAt wr K s (p + 1)
          have HI2 : Hid (w2.heap[K]? = some (.stringIter s (p + 1))) := by show _ = _; rw [hw2]; exact Lib.iterAt_heap wr K s p (p + 1) HI.out
          have HO2 := Lib.hid (c2.owns HO.out (fun k hk => by simp [Value.ownBlock] at hk; omega))
          have HB2 := Lib.hid (HB.out.trans (c2.below HB.out.size (fun k hk => by omega)))
          have HT2 := Lib.hid (HT0.out.below HB2.out)
          rw [← hw2] at hnx0
          have hnx : ∀ ty, (Instr.next (.pointer (some ⟨K, 0, none⟩)) true ty).run Tryd.prog wr = _ := hnx0
          clear hnx0 hw2 c2 hc HI HO HB
          rcases hw_cases c hc7 with ⟨h1, h2⟩ | ⟨d, hd, h1, h2⟩
          · have HN := Lib.hid (unhex_no (l := l) (i := p) (by rw [HLN.out]; exact hpn) (by rw [HAT.out]; exact h2))
            clear h2
            have H1 := Lib.hid h1
            clear h1
            go_wp2_with (go_at_call 79; refine (whex_no c _ hc7 HT2.out H1.out).mono ?_; rintro e w3 ⟨rfl, rfl⟩)
            go_ret2
            exact UnhexPost.no HB2.out HN.out
          · have hm := HM.out
            obtain ⟨x, hx, e1, e2⟩ := pairUp_step ws d (m - (p + 1) / 2) HD.out hd (by have := HW.out; omega)
            rw [HW.out] at e1 e2
            obtain ⟨q, hq3⟩ : ∃ q, q = p / 2 := ⟨_, rfl⟩
            rw [← hq3] at e1 e2
            have hqm : q < m := by omega
            have hql : q < (pairUp ws ++ List.replicate (m - (p + 1) / 2) 0).length := by
              have := HW.out
              rw [List.length_append, pairUp_len, List.length_replicate]
              omega
            have hcell : w2.cell? ⟨w.heap.size, q, none⟩ = some (.int .u8 (x : Nat)) := by
              rw [World.ownsRow.cellAt HO2.out q (by omega), u8s_ats _ q hql, e1]
            have hfz : w2.frozen? ⟨w.heap.size, q, none⟩ = false := World.ownsRow.frozenAt HO2.out q
            have hd1 : (p : Int) / 2 = (q : Int) := by omega
            obtain ⟨y, hy⟩ : ∃ y, y = x * 16 + d := ⟨_, rfl⟩
            have ho : bits BinOp.or IntKind.u8 ((x : Int) * 16 % 256) (d : Int) = (y : Int) := by rw [hy]; exact or4 x d hx hd
            have hst := ow8.set HO2.out q y
            rw [hy, e2] at hst
            rw [← hy] at hst
            have e3 : m - (p + 1) / 2 - (1 - p % 2) = m - (p + 1 + 1) / 2 := by omega
            rw [e3] at hst
            have HO3 : Hid (World.ownsRow (w2.setCell ⟨w.heap.size, q, none⟩ (.int .u8 (y : Nat))) _ _ _ _ _ _) := hst
            have HB3 : Hid (Below w.heap.size w (w2.setCell ⟨w.heap.size, q, none⟩ (.int .u8 (y : Nat)))) := HB2.out.setCell (p := ⟨w.heap.size, q, none⟩) (Nat.le_refl _) _
            have hkk : w.heap.size ≠ K := by omega
            have HI3 : Hid ((w2.setCell ⟨w.heap.size, q, none⟩ (.int .u8 (y : Nat))).heap[K]? = some (.stringIter s (p + 1))) := by
              show _ = _
              rw [Below.heap_setCell _ _ _ _ (fun e => hkk e.symm)]
              exact HI2.out
            have HX := Lib.hid hx
            have HY := Lib.hid hy
            have HQ := Lib.hid hq3
            have HM2 := Lib.hid hm
            have HD1 := Lib.hid h1
            have HL2 := Lib.hid h2
            clear hst hx hy hq3 e1 e2 e3 hm hql h1 h2 HO2 HB2 hkk
            go_wp2_with (go_at_call 79; refine (whex_yes c d _ hc7 HT2.out hd HD1.out).mono ?_; rintro e w3 ⟨rfl, rfl⟩)
            go_roundw
            case rel =>
              refine ⟨p + 1, ws ++ [d], by omega, ?_, ?_, ?_, HI3.out, HO3.out, HB3.out⟩
              · show _ = _; rw [List.length_append, HW.out]; rfl
              · show ∀ x ∈ _, _
                intro x hx
                rcases List.mem_append.1 hx with h | h
                · exact HD.out x h
                · simp at h; omega
              · show _ = _
                rw [List.map_append, HWM.out, take_succ_at0 (by rw [HLN.out]; exact hpn), HAT.out]
                simp [HL2.out]
            case measure =>
              have : ∀ W : World, W.heap[K]? = some (.stringIter s (p + 1)) → W.iterPos K = p + 1 := fun W h => by simp [World.iterPos, h]
              rw [this _ HI3.out, hitp]
              omega
        · have hnx0 := fun ty => Lib.run_next_any_at (P := Tryd.prog) wr K s p ty HI.out hps
          have hr1 := (decode_high s p hps (by omega)).1
          have hr2 := decode_le s p
          obtain ⟨w2, hw2⟩ : ∃ w2, w2 = wr.iterAt K s (p + (Utf8.decode s p).2) := ⟨_, rfl⟩
          have c2 : Chg (fun i => i = K) wr w2 := by rw [hw2]; exact Chg.iterAt wr K s _
          have HB2 := Lib.hid (HB.out.trans (c2.below HB.out.size (fun k hk => by omega)))
          rw [← hw2] at hnx0
          generalize (Utf8.decode s p).1 = r at hnx0 hr1 hr2
          have hnx : ∀ ty, (Instr.next (.pointer (some ⟨K, 0, none⟩)) true ty).run Tryd.prog wr = _ := hnx0
          have HN := Lib.hid (unhex_high (l := l) (i := p) (by rw [HLN.out]; exact hpn) (by rw [HAT.out]; omega))
          clear hnx0 hw2 c2 hc HI HO HB
          go_wp2_with (go_at_call 79; refine (whex_high r _ (by omega) (by omega)).mono ?_; rintro e w3 ⟨rfl, rfl⟩)
          go_ret2
          exact UnhexPost.no HB2.out HN.out
      · obtain rfl : p = n := by omega
        have hm := HM.out
        have hnx : ∀ ty, (Instr.next (.pointer (some ⟨K, 0, none⟩)) true ty).run Tryd.prog wr = _ := fun ty => Lib.run_next_end_at wr K s p ty HI.out (by omega)
        have hp : UnhexTells l 0 (pairUp ws) := unhex_yes HD.out (by rw [HWM.out, List.take_of_length_le (by rw [HLN.out]; exact Nat.le_refl _)]) (by rw [HLN.out]; omega)
        have hlen : (pairUp ws).length = m := by rw [pairUp_len, HW.out]; omega
        have hO := HO.out
        rw [show m - (p + 1) / 2 = 0 by omega, List.replicate_zero, List.append_nil] at hO
        have hO2 : own8 wr w.heap.size (.slice (some ⟨w.heap.size, 0, none⟩) m m) (pairUp ws) := by show wr.ownsRow _ _ _ _ _ _; rw [hlen]; exact hO
        have HP := Lib.hid hp
        have HLEN := Lib.hid hlen
        have HOO := Lib.hid hO2
        have HBB := Lib.hid HB.out
        have HMM := Lib.hid hm
        clear hp hlen hO hO2 HO HB hm
        go_wp2
        go_ret2
        exact ⟨HBB.out, _, _, _, rfl, HOO.out, HP.out, by rw [HLEN.out, HLN.out]; have := HMM.out; omega⟩
end Go.Proofs.YtaookoejdnkkoaaDoor
