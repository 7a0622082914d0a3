import Derived.Test.YtaookoejdnkkoaaDoorQ15
namespace Go.Proofs.YtaookoejdnkkoaaDoor
open Go.RowKit

/-! The reference's words: who is named, what data tells. -/

def hexS : ByteArray := ⟨#[104, 101, 120]⟩
def b64S : ByteArray := ⟨#[98, 97, 115, 101, 54, 52]⟩
/-- Who is named: the algorithm, the encoding, the data. -/
def NamedT (l : List Nat) (e : Ending) : Prop :=
  (∃ f a d, NamF l f a hexW d ∧ plainL a ∧ e = .returned (.tuple #[.string (strN a), .string hexS, .string (strN d), .bool true])) ∨ (∃ f a d, NamF l f a b64W d ∧ plainL a ∧ e = .returned (.tuple #[.string (strN a), .string b64S, .string (strN d), .bool true])) ∨
  ((∀ f a en d, NamF l f a en d → ¬ plainL a) ∧ e = .returned (.tuple #[.string ⟨#[]⟩, .string ⟨#[]⟩, .string ⟨#[]⟩, .bool false]))
theorem b8_split {l f d : List Nat} {c : Nat} (h8 : B8 l) (h : l = f ++ c :: d) : B8 f ∧ B8 d := by
  subst h
  exact ⟨fun x hx => h8 x (by simp [hx]), fun x hx => h8 x (by simp [hx])⟩
theorem b8_front {l a t : List Nat} (h8 : B8 l) (h : l = a ++ t) : B8 a := by subst h; exact fun x hx => h8 x (by simp [hx])
end Go.Proofs.YtaookoejdnkkoaaDoor
