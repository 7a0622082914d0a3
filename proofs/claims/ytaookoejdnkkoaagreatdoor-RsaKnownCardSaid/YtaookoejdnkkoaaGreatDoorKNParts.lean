import Derived.Test.YtaookoejdnkkoaaGreatDoorKKom
namespace Go.Proofs.YtaookoejdnkkoaaGreatDoor
open Go.RowKit

theorem n_div {B : Nat} {w : World} {L : List (Value × Nat × Bool)} {v1 v2 : Value} {n1 n2 : Nat} {k1 k2 : Bool} (hE : NEnv B w L) (h1 : (v1, n1, k1) ∈ L) (h2 : (v2, n2, k2) ∈ L) (h0 : 0 < n2) :
    Calls Tryz.prog 165 #[v1, v2] w fun e w' => ∃ q r, e = .returned (.tuple #[q, r, .int .i64 0]) ∧ NEnv B w' ((q, n1 / n2, true) :: (r, n1 % n2, true) :: L) ∧ Below w.heap.size w w' := by
  have hn1 := (hE.get h1).lt
  obtain ⟨a, ca, xs, rfl, ho1, hb1, rfl, hl1, -⟩ := hE.get h1
  obtain ⟨b, cb, ys, rfl, ho2, hb2, rfl, hl2, -⟩ := hE.get h2
  refine (quo_all a b _ _ ca cb xs ys w rfl rfl (by omega) (by omega) (own64.room ho1).1 (own64.room ho2).1 (own64.room ho1).2 (own64.rd ho1).2 (own64.rd ho2).2 hb1 hb2).mono ?_
  rintro e w' ⟨hb, hor⟩
  have f1 := fl_le_128 hl1
  have f2 := fl_le_128 hl2
  rcases hor with ⟨h, _⟩ | ⟨_, _, h, _⟩ | ⟨_, _, _, q, r, qs, rs, rfl, oq, or, nq, nr, _⟩
  · omega
  · omega
  · have hr := hE.add hb (isn_of_num (own64.low or hE.1) nr (Nat.lt_of_le_of_lt (Nat.mod_le _ _) hn1))
    refine ⟨q, r, rfl, ⟨hr.1, fun p hp => ?_⟩, hb⟩
    rcases List.mem_cons.1 hp with rfl | hp
    · exact isn_of_num (own64.low oq hE.1) nq (Nat.lt_of_le_of_lt (Nat.div_le_self _ _) hn1)
    · exact hr.2 p hp
end Go.Proofs.YtaookoejdnkkoaaGreatDoor
