/-
  The contracts of package name that the laws call, gathered.
-/
import Derived.Test.YtnejidaplbonoaaNcVal
import Derived.Test.YtnejidaplbonoaaNcSam
import Derived.Test.YtnejidaplbonoaaNcTxt
import Derived.Test.YtnejidaplbonoaaNcPar
import Derived.Test.YtnejidaplbonoaaNcByt
import Derived.Test.YtnejidaplbonoaaNcRd
