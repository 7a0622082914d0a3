import Derived.Test.YtpipjkpjpkgmpaaDoorGB
namespace Go.Proofs.YtpipjkpjpkgmpaaDoor
open Go.RowKit

theorem B8.tail {x : Nat} {xs : List Nat} (h : B8 (x :: xs)) : B8 xs := fun y hy => h y (List.mem_cons_of_mem _ hy)
theorem B8.head {x : Nat} {xs : List Nat} (h : B8 (x :: xs)) : x < 256 := h x (List.mem_cons_self ..)
theorem B8.append {xs ys : List Nat} (h : B8 xs) (k : B8 ys) : B8 (xs ++ ys) := fun y hy => by
  rcases List.mem_append.1 hy with h1 | h1
  · exact h y h1
  · exact k y h1

/-- The letters of hex, and hex. -/
def hexD (d : Nat) : Nat := if d < 10 then 48 + d else 87 + d
def hexL : List Nat → List Nat
  | [] => []
  | b :: t => hexD (b / 16) :: hexD (b % 16) :: hexL t
def low (c : Nat) : Nat := if 65 ≤ c ∧ c ≤ 70 then c + 32 else c
theorem hexL_len (b : List Nat) : (hexL b).length = 2 * b.length := by
  induction b with
  | nil => rfl
  | cons x t ih => simp [hexL, ih]; omega
theorem hexL_app (a b : List Nat) : hexL (a ++ b) = hexL a ++ hexL b := by
  induction a with
  | nil => rfl
  | cons x t ih => simp [hexL, ih]
theorem hexL_snoc (a : List Nat) (x : Nat) : hexL (a ++ [x]) = hexL a ++ [hexD (x / 16), hexD (x % 16)] := by rw [hexL_app]; rfl
theorem hexD_inj {c d : Nat} (hc : c < 16) (hd : d < 16) (h : hexD c = hexD d) : c = d := by
  unfold hexD at h; split at h <;> split at h <;> omega
theorem hexL_inj : ∀ (a b : List Nat), B8 a → B8 b → hexL a = hexL b → a = b
  | [], [], _, _, _ => rfl
  | [], _ :: _, _, _, h => by simp [hexL] at h
  | _ :: _, [], _, _, h => by simp [hexL] at h
  | x :: a, y :: b, ha, hb, h => by
    simp only [hexL, List.cons.injEq] at h
    obtain ⟨h1, h2, h3⟩ := h
    have hx := ha.head
    have hy := hb.head
    have e1 := hexD_inj (by omega) (by omega) h1
    have e2 := hexD_inj (by omega) (by omega) h2
    have e : x = y := by omega
    rw [e, hexL_inj a b ha.tail hb.tail h3]
theorem hexD_lt {d : Nat} (h : d < 16) : hexD d < 128 := by unfold hexD; split <;> omega
theorem hexL_lt {b : List Nat} (h : B8 b) : ∀ c ∈ hexL b, c < 128 := by
  induction b with
  | nil => intro c hc; cases hc
  | cons x t ih =>
    intro c hc
    have hx := h.head
    simp only [hexL, List.mem_cons] at hc
    rcases hc with rfl | rfl | hc
    · exact hexD_lt (by omega)
    · exact hexD_lt (by omega)
    · exact ih h.tail c hc
theorem low_lt {c : Nat} (h : c < 128) : low c < 128 := by unfold low; split <;> omega
theorem low_of_lt {c : Nat} (h : low c < 128) : c < 128 := by unfold low at h; split at h <;> omega

/-- What a text as hex tells: the bytes, or that there are none such. -/
def UnhexTells (l : List Nat) (k : Int) (b : List Nat) : Prop :=
  (k = 0 ∧ B8 b ∧ hexL b = l.map low) ∨ (k = 60 ∧ b = [] ∧ ∀ c, B8 c → hexL c ≠ l.map low)
theorem UnhexTells.one {l : List Nat} {k k' : Int} {b b' : List Nat} (h : UnhexTells l k b) (g : UnhexTells l k' b') : k = k' ∧ b = b' := by
  rcases h with ⟨rfl, h1, h2⟩ | ⟨rfl, rfl, h2⟩ <;> rcases g with ⟨rfl, g1, g2⟩ | ⟨rfl, rfl, g2⟩
  · exact ⟨rfl, hexL_inj _ _ h1 g1 (h2.trans g2.symm)⟩
  · exact absurd h2 (g2 _ h1)
  · exact absurd g2 (h2 _ g1)
  · exact ⟨rfl, rfl⟩

/-- The letters of base64, and base64. -/
def b64D (d : Nat) : Nat := if d < 26 then 65 + d else if d < 52 then 71 + d else if d < 62 then d - 4 else if d = 62 then 43 else 47
def b64L : List Nat → List Nat
  | [] => []
  | [a] => [b64D (a / 4), b64D (a % 4 * 16), 61, 61]
  | [a, b] => [b64D (a / 4), b64D (a % 4 * 16 + b / 16), b64D (b % 16 * 4), 61]
  | a :: b :: c :: t => b64D (a / 4) :: b64D (a % 4 * 16 + b / 16) :: b64D (b % 16 * 4 + c / 64) :: b64D (c % 64) :: b64L t
theorem b64L_len : ∀ b : List Nat, (b64L b).length = (b.length + 2) / 3 * 4
  | [] => rfl
  | [_] => by simp [b64L]
  | [_, _] => by simp [b64L]
  | _ :: _ :: _ :: t => by simp only [b64L, List.length_cons, b64L_len t]; omega
theorem b64L_app : ∀ (a b : List Nat), a.length % 3 = 0 → b64L (a ++ b) = b64L a ++ b64L b
  | [], _, _ => rfl
  | [_], _, h => by simp at h
  | [_, _], _, h => by simp at h
  | x :: y :: z :: t, b, h => by
    simp only [List.cons_append, b64L]
    rw [b64L_app t b (by simp at h; omega)]
theorem b64D_inj {c d : Nat} (hc : c < 64) (hd : d < 64) (h : b64D c = b64D d) : c = d := by
  unfold b64D at h; repeat' split at h
  all_goals omega
theorem b64D_lt {d : Nat} (h : d < 64) : b64D d < 128 ∧ b64D d ≠ 61 := by
  unfold b64D
  repeat' split
  all_goals omega
theorem b64L_inj : ∀ (a b : List Nat), B8 a → B8 b → b64L a = b64L b → a = b := by
  intro a
  induction h : a.length using Nat.strongRecOn generalizing a with
  | ind n ih =>
  intro b ha hb he
  match a, b, h with
  | [], [], _ => rfl
  | [], [_], _ => simp [b64L] at he
  | [], [_, _], _ => simp [b64L] at he
  | [], _ :: _ :: _ :: _, _ => simp [b64L] at he
  | [_], [], _ => simp [b64L] at he
  | [_, _], [], _ => simp [b64L] at he
  | _ :: _ :: _ :: _, [], _ => simp [b64L] at he
  | [x], [y], _ =>
    simp only [b64L, List.cons.injEq] at he
    have hx := ha.head; have hy := hb.head
    have e1 := b64D_inj (by omega) (by omega) he.1
    have e2 := b64D_inj (by omega) (by omega) he.2.1
    rw [show x = y by omega]
  | [x], [y, y2], _ =>
    simp only [b64L, List.cons.injEq] at he
    have hx := ha.head; have hy := hb.head; have hy2 := hb.tail.head
    exact absurd he.2.2.1.symm (b64D_lt (by omega)).2
  | [x], y :: y2 :: y3 :: t, _ =>
    simp only [b64L, List.cons.injEq] at he
    have hx := ha.head; have hy := hb.head; have hy2 := hb.tail.head; have hy3 := hb.tail.tail.head
    exact absurd he.2.2.1.symm (b64D_lt (by omega)).2
  | [x, x2], [y], _ =>
    simp only [b64L, List.cons.injEq] at he
    have hx := ha.head; have hy := hb.head; have hx2 := ha.tail.head
    exact absurd he.2.2.1 (b64D_lt (by omega)).2
  | [x, x2], [y, y2], _ =>
    simp only [b64L, List.cons.injEq] at he
    have hx := ha.head; have hy := hb.head; have hx2 := ha.tail.head; have hy2 := hb.tail.head
    have e1 := b64D_inj (by omega) (by omega) he.1
    have e2 := b64D_inj (by omega) (by omega) he.2.1
    have e3 := b64D_inj (by omega) (by omega) he.2.2.1
    rw [show x = y by omega, show x2 = y2 by omega]
  | [x, x2], y :: y2 :: y3 :: t, _ =>
    simp only [b64L, List.cons.injEq] at he
    have hy3 := hb.tail.tail.head
    exact absurd he.2.2.2.1.symm (b64D_lt (by omega)).2
  | x :: x2 :: x3 :: s, [y], _ =>
    simp only [b64L, List.cons.injEq] at he
    have hx3 := ha.tail.tail.head; have hx2 := ha.tail.head
    exact absurd he.2.2.1 (b64D_lt (by omega)).2
  | x :: x2 :: x3 :: s, [y, y2], _ =>
    simp only [b64L, List.cons.injEq] at he
    have hx3 := ha.tail.tail.head
    exact absurd he.2.2.2.1 (b64D_lt (by omega)).2
  | x :: x2 :: x3 :: s, y :: y2 :: y3 :: t, h =>
    simp only [b64L, List.cons.injEq] at he
    have hx := ha.head; have hx2 := ha.tail.head; have hx3 := ha.tail.tail.head
    have hy := hb.head; have hy2 := hb.tail.head; have hy3 := hb.tail.tail.head
    have e1 := b64D_inj (by omega) (by omega) he.1
    have e2 := b64D_inj (by omega) (by omega) he.2.1
    have e3 := b64D_inj (by omega) (by omega) he.2.2.1
    have e4 := b64D_inj (by omega) (by omega) he.2.2.2.1
    have e5 := ih s.length (by simp at h; omega) s rfl t ha.tail.tail.tail hb.tail.tail.tail he.2.2.2.2
    rw [e5, show x = y by omega, show x2 = y2 by omega, show x3 = y3 by omega]
/-- What a text as base64 tells. -/
def Un64Tells (l : List Nat) (k : Int) (b : List Nat) : Prop :=
  (k = 0 ∧ B8 b ∧ b64L b = l) ∨ (k = 61 ∧ b = [] ∧ ∀ c, B8 c → b64L c ≠ l)
theorem Un64Tells.one {l : List Nat} {k k' : Int} {b b' : List Nat} (h : Un64Tells l k b) (g : Un64Tells l k' b') : k = k' ∧ b = b' := by
  rcases h with ⟨rfl, h1, h2⟩ | ⟨rfl, rfl, h2⟩ <;> rcases g with ⟨rfl, g1, g2⟩ | ⟨rfl, rfl, g2⟩
  · exact ⟨rfl, b64L_inj _ _ h1 g1 (h2.trans g2.symm)⟩
  · exact absurd h2 (g2 _ h1)
  · exact absurd g2 (h2 _ g1)
  · exact ⟨rfl, rfl⟩
end Go.Proofs.YtpipjkpjpkgmpaaDoor
