/-
  The contract of slices' symMerge.
-/
import Derived.Test.YtgecoiakhmnilaaSymA
import Derived.Test.YtgecoiakhmnilaaSymB
import Derived.Test.YtgecoiakhmnilaaSymC1
import Derived.Test.YtgecoiakhmnilaaSymC2
namespace Go.Proofs.Ytgecoiakhmnilaa
open Go.RowKit Hf

theorem sym_word (n cap B gb gs gc oc capc : Nat) (cs : List Int) (hn : n ≤ 100000) : ∀ (k a m b : Nat) (o : List Int) (w : World), b - a ≤ k → Cts w gb gs gc oc capc cs → a < m → m < b → b ≤ n → o.length = n → w.ownsRow B 3 1 (.slice (some ⟨gs, 0, none⟩) n cap) n (o.map (Value.int .i64)) → (∀ u ∈ o, 0 ≤ u ∧ u < (cs.length : Int)) → Mrg cs a m b o →
    Calls Try.prog 58 #[(.slice (some ⟨gs, 0, none⟩) n cap), .int .i64 (a : Int), .int .i64 (m : Int), .int .i64 (b : Int), .func (.func 52) #[] #[.pointer (some ⟨gb, 0, none⟩)]] w fun e w' => e = .returned (.tuple #[]) ∧ (∃ X, Sorted cs a b o X ∧ w'.ownsRow B 3 1 (.slice (some ⟨gs, 0, none⟩) n cap) n (X.map (Value.int .i64))) ∧ w.grownBy w' (some gs)
  | 0, a, m, b, _, _, hk, _, h1, h2, _, _, _, _, _ => by omega
  | k + 1, a, m, b, o, w, hk, hcts, h1, h2, hb, hl, hown, ho, hm => by
    by_cases c1 : m = a + 1
    · exact symA_word a m b n cap B gb gs gc oc capc cs o w hcts c1 h2 hb hn hl hown ho hm
    · by_cases c2 : b = m + 1
      · exact symB_word a m b n cap B gb gs gc oc capc cs o w hcts (by omega) c2 hb hn hl hown ho hm
      · have hrec : ∀ (a' m' b' : Nat) (o' : List Int) (W : World), a' < m' → m' < b' → b' ≤ n → b' - a' < b - a → o'.length = n → W.ownsRow B 3 1 (.slice (some ⟨gs, 0, none⟩) n cap) n (o'.map (Value.int .i64)) → (∀ u ∈ o', 0 ≤ u ∧ u < (cs.length : Int)) → Mrg cs a' m' b' o' → w.grownBy W (some gs) →
            Calls Try.prog 58 #[(.slice (some ⟨gs, 0, none⟩) n cap), .int .i64 (a' : Int), .int .i64 (m' : Int), .int .i64 (b' : Int), .func (.func 52) #[] #[.pointer (some ⟨gb, 0, none⟩)]] W fun e w' => e = .returned (.tuple #[]) ∧ (∃ X, Sorted cs a' b' o' X ∧ w'.ownsRow B 3 1 (.slice (some ⟨gs, 0, none⟩) n cap) n (X.map (Value.int .i64))) ∧ W.grownBy w' (some gs) :=
          fun a' m' b' o' W e1 e2 e3 e4 e5 e6 e7 e8 e9 => sym_word n cap B gb gs gc oc capc cs hn k a' m' b' o' W (by omega) (hcts.kept e9) e1 e2 e3 e5 e6 e7 e8
        by_cases c3 : (a + b) / 2 < m
        · exact symC1_word a m b ((a + b) / 2) n cap B gb gs gc oc capc cs o w hcts (by omega) (by omega) hb hn hl rfl c3 hown ho hm hrec
        · exact symC2_word a m b ((a + b) / 2) n cap B gb gs gc oc capc cs o w hcts (by omega) (by omega) hb hn hl rfl (by omega) hown ho hm hrec
end Go.Proofs.Ytgecoiakhmnilaa
