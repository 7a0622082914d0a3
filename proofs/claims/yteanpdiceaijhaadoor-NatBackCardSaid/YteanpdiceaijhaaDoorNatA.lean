import Derived.Test.YteanpdiceaijhaaDoorNum
namespace Go.Proofs.YteanpdiceaijhaaDoor
open Go.RowKit

def u64s (xs : List Nat) : List Value := xs.map fun (x : Nat) => Value.int .u64 x
theorem u64s_len (xs : List Nat) : (u64s xs).length = xs.length := by simp [u64s]
theorem u64s_get (xs : List Nat) (i : Nat) (h : i < xs.length) : (u64s xs)[i]? = some (.int .u64 (at0 xs i : Nat)) := by simp [u64s, h, at0_getElem]
theorem u64s_append (xs ys : List Nat) : u64s (xs ++ ys) = u64s xs ++ u64s ys := by simp [u64s]
theorem u64s_set (xs : List Nat) (i x : Nat) : (u64s xs).set i (.int .u64 (x : Nat)) = u64s (xs.set i x) := by simp [u64s, List.map_set]
/-- A list of limbs in a block of the call's own. -/
def own64 (w : World) (B : Nat) (v : Value) (zs : List Nat) : Prop := w.ownsRow B 55 1 v zs.length (u64s zs)
theorem own64.rd {w : World} {B : Nat} {a : Option Addr} {n c : Nat} {zs : List Nat} (h : own64 w B (.slice a n c) zs) : n = zs.length ∧ Rd .u64 w a zs := by
  rcases h.2 with ⟨hv, h0⟩ | ⟨g, c', cur, hv, _⟩
  · cases hv; exact ⟨h0.symm, fun j hj => by omega⟩
  · cases hv
    refine ⟨rfl, fun j hj => ⟨g, 0, rfl, fun i hi => ?_⟩⟩
    have := World.ownsRow.cellAt h i (by omega)
    rw [u64s_get _ _ hi] at this
    simpa [at0] using this
theorem own64.form {w : World} {B : Nat} {v : Value} {zs : List Nat} (h : own64 w B v zs) : ∃ a c, v = .slice a zs.length c ∧ Rd .u64 w a zs := by
  rcases h.2 with ⟨rfl, h0⟩ | ⟨g, c', cur, rfl, r⟩
  · exact ⟨none, 0, by rw [h0], fun j hj => by omega⟩
  · exact ⟨_, c', rfl, (own64.rd h).2⟩
theorem Rd.cell {k : IntKind} {w : World} {b off : Nat} {xs : List Nat} (h : Rd k w (some ⟨b, off, none⟩) xs) {i : Nat} (hi : i < xs.length) : w.cell? ⟨b, off + i, none⟩ = some (.int k (at0 xs i : Nat)) := by
  obtain ⟨b', off', e, hc⟩ := h i hi
  cases e
  exact hc i hi
theorem Rd.isAt {k : IntKind} {w : World} {a : Option Addr} {xs : List Nat} (h : Rd k w a xs) (h0 : 0 < xs.length) : ∃ b off, a = some ⟨b, off, none⟩ := by
  obtain ⟨b, off, e, _⟩ := h 0 h0
  exact ⟨b, off, e⟩
theorem Rd.take {k : IntKind} {w : World} {a : Option Addr} {xs : List Nat} (h : Rd k w a xs) (n : Nat) : Rd k w a (xs.take n) := by
  intro j hj
  rw [List.length_take] at hj
  obtain ⟨b, off, e, hc⟩ := h j (by omega)
  refine ⟨b, off, e, fun i hi => ?_⟩
  rw [List.length_take] at hi
  have := hc i (by omega)
  have h2 := at0_take (xs := xs) (i := i) (n := n) (by omega)
  unfold at0 at h2
  rw [h2]; exact this
theorem Rd.nil (k : IntKind) (w : World) (a : Option Addr) : Rd k w a [] := fun j hj => by simp at hj

set_option maxHeartbeats 400000 in
theorem form_any (a : Option Addr) (len cap : Nat) (xs : List Nat) (w : World) (hl : xs.length = len) (hbig : len ≤ 1099511627776) (hcap : len ≤ cap) (hr : Rd .u64 w a xs) :
    Calls Tryd.prog 58 #[.slice a len cap] w fun e w' => (∃ a' c', e = .returned (.slice a' (fl xs) c') ∧ (0 < fl xs → a' = a ∧ c' = cap) ∧ (fl xs = 0 → a' = none ∧ c' = 0)) ∧ w = w' := by
  go_enter Tryd.func58, Tryd.ntmps58
  go_wp2
  go_loop [3] (fun v => ∃ n : Nat, n ≤ len ∧ v = .int .i64 n ∧ Hid (∀ i, n ≤ i → i < xs.length → at0 xs i = 0)) (fun v => (intOf v).toNat)
  case atStart => exact ⟨len, Nat.le_refl _, rfl, fun i h1 h2 => by omega⟩
  case round =>
    obtain ⟨n, hn, rfl, hz⟩ := hrel
    by_cases h0 : n = 0
    · subst h0
      have hf := Lib.hid (show 0 = fl xs from fl_unique (Nat.zero_le _) hz.out (fun h => by omega))
      go_wp2
      go_ret
      exact ⟨⟨none, 0, by rw [← hf.out]; rfl, fun h => by have := hf.out; omega, fun _ => ⟨rfl, rfl⟩⟩, rfl⟩
    · obtain ⟨b, off, rfl⟩ := hr.isAt (by omega)
      have hcell := hr.cell (i := n - 1) (by omega)
      obtain ⟨m, rfl⟩ : ∃ m, n = m + 1 := ⟨n - 1, by omega⟩
      rw [Nat.add_sub_cancel] at hcell
      generalize hx0 : at0 xs m = x at hcell
      have hx := Lib.hid hx0
      clear hx0 hr
      by_cases hx1 : x = 0
      · subst hx1
        go_wp2
        go_round
        case rel => exact ⟨m, by omega, by go_num, fun i h1 h2 => by rcases Nat.eq_or_lt_of_le h1 with rfl | h; exact hx.out; exact hz.out i h h2⟩
        case measure => simp [intOf]
      · have hf : m + 1 = fl xs := fl_unique (by omega) hz.out (fun _ => by rw [Nat.add_sub_cancel, hx.out]; exact hx1)
        have HF := Lib.hid hf
        clear hf
        go_wp2
        go_ret
        exact ⟨⟨_, cap, by rw [← HF.out]; rfl, fun h => ⟨rfl, rfl⟩, fun h => by have := HF.out; omega⟩, rfl⟩
end Go.Proofs.YteanpdiceaijhaaDoor
