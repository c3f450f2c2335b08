import Derived.Test.YtabjomgikljdhaaDoorPf
import Derived.Test.YtabjomgikljdhaaDoorPb
namespace Go.Proofs.YtabjomgikljdhaaDoor
open Go.RowKit Go.Maps

theorem str_cat (a b c : Txt) (h : a ++ b = c) : Value.string (ByteArray.mk a.toArray ++ ByteArray.mk b.toArray) = str c := by
  rw [ByteArray.mk_append_mk, ← h]

end Go.Proofs.YtabjomgikljdhaaDoor
